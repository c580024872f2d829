/- Walk of the reference's Expand. -/
import Derived.Test.YtgagafefhmofjaaCipN
import Derived.Test.YtgagafefhmofjaaCipCa
namespace Go.Proofs.Ytgagafefhmofjaa
open Go.RowKit
set_option linter.unusedVariables false

theorem size_r60 : (Try.prog.info? 30).map (·.size) = some 60 := by kernel_rfl
theorem alloc_r60 (w : World) : (Instr.alloc 30 true (.tuple #[])).run Try.prog w = .ok (.pointer (some ⟨w.heap.size, 0, none⟩)) (w.alloc (.cells (ints .u32 (nn (zerN 60))).toArray 30)) := by kernel_rfl
theorem alloc_z256 (w : World) : (Instr.alloc 55 true (.tuple #[])).run Try.prog w = .ok (.pointer (some ⟨w.heap.size, 0, none⟩)) (w.alloc (.cells (ints .u8 (nn (zerN 256))).toArray 55)) := by kernel_rfl
theorem mixedO : Try.prog.follows .mixedOrders = true := by kernel_rfl
theorem rot8_bits (t : Nat) (h : t < 4294967296) : bits .or .u32 ((t : Int) * 256 % 4294967296) ((t : Int) / 16777216) = ((rotl32 t 8 : Nat) : Int) := by
  have := rotl32_bits t 8 h
  simpa using this.symm

set_option maxHeartbeats 3000000 in
set_option maxRecDepth 100000 in
theorem r_Expand (key : List Nat) (w : World) (hl : key.length = 32) (hk : Bys key) :
    Calls Try.prog 11 #[.agg (ints .u8 (nn key)).toArray] w fun e w' => e = .returned (.agg (ints .u32 (nn (expandL key))).toArray) ∧ Below w.heap.size w w' := by
  have HLK := Lib.hid hl
  clear hl
  have hLen := expandL_len key
  obtain ⟨L, hL⟩ : ∃ L, expandL key = L := ⟨_, rfl⟩
  rw [hL] at hLen ⊢
  have HL := Lib.hid hL
  have HLen := Lib.hid hLen
  clear hL hLen
  have k0 : Blk ((w.alloc (.cells (ints .u8 (nn key)).toArray 23)).alloc (.cells (ints .u32 (nn (zerN 60))).toArray 30)) w.heap.size 23 (ints .u8 (nn key)) := (Blk.new _ _ _).alloc _
  have k1 : Blk ((w.alloc (.cells (ints .u8 (nn key)).toArray 23)).alloc (.cells (ints .u32 (nn (zerN 60))).toArray 30)) (w.heap.size + 1) 30 (ints .u32 (nn (zerN 60))) := Blk.new2 _ _ _ _ rfl
  have kb : Below w.heap.size w ((w.alloc (.cells (ints .u8 (nn key)).toArray 23)).alloc (.cells (ints .u32 (nn (zerN 60))).toArray 30)) := ((Below.refl _ _).alloc (Nat.le_refl _) _).alloc (by simp) _
  have hT := fun w => r_Table w
  have HT := Lib.hid hT
  have hbl := boxT_len
  have HBL := Lib.hid hbl
  clear hT hbl
  go_enter Try.func11, Try.ntmps11
  go_wp2_with (first | (refine wpList_alloc_at rfl 30 rfl _ _ (alloc_r60 _) ?_))
  generalize World.alloc (World.alloc w _) _ = w2 at *
  refine (HT.out _).mono ?_
  rintro e w3 ⟨rfl, hb3⟩
  have i0 := k0.below hb3 k0.lt
  have i1 := k1.below hb3 k1.lt
  have iw := kb.trans (hb3.mono kb.size)
  have ilt : w.heap.size + 1 < w3.heap.size := i1.lt
  clear k0 k1 kb hb3
  have hZ : (ints .u8 (nn boxT)).length = (ints .u8 (nn (zerN 256))).length := by rw [ints_length, ints_length, nn_length, nn_length, HBL.out, zerN_len]
  have HZ := Lib.hid hZ
  have j2 := (Blk.new' w3 55 (ints .u8 (nn (zerN 256))) rfl).row (ints .u8 (nn boxT)) hZ
  have j0 := (i0.alloc (.cells (ints .u8 (nn (zerN 256))).toArray 55)).rowOther (show w.heap.size ≠ w3.heap.size by omega) (ints .u8 (nn boxT)).toArray
  have j1 := (i1.alloc (.cells (ints .u8 (nn (zerN 256))).toArray 55)).rowOther (show w.heap.size + 1 ≠ w3.heap.size by omega) (ints .u8 (nn boxT)).toArray
  have jw := below_setRow (iw.alloc (by omega) (.cells (ints .u8 (nn (zerN 256))).toArray 55)) (show w.heap.size ≤ w3.heap.size by omega) (ints .u8 (nn boxT)).toArray
  have jn : ((w3.alloc (.cells (ints .u8 (nn (zerN 256))).toArray 55)).setRow w3.heap.size (ints .u8 (nn boxT)).toArray).heap.size = w3.heap.size + 1 := by simp
  clear i0 i1 iw hZ
  have m0 := (j0.alloc (.cells (ints .u32 (nn (zerN 60))).toArray 30)).rowOther (show w.heap.size ≠ w3.heap.size + 1 by omega) (ints .u32 (nn (zerN 60))).toArray
  have m1 := (j1.alloc (.cells (ints .u32 (nn (zerN 60))).toArray 30)).rowOther (show w.heap.size + 1 ≠ w3.heap.size + 1 by omega) (ints .u32 (nn (zerN 60))).toArray
  have m2 := (j2.alloc (.cells (ints .u32 (nn (zerN 60))).toArray 30)).rowOther (show w3.heap.size ≠ w3.heap.size + 1 by omega) (ints .u32 (nn (zerN 60))).toArray
  have m3' := Blk.new' ((w3.alloc (.cells (ints .u8 (nn (zerN 256))).toArray 55)).setRow w3.heap.size (ints .u8 (nn boxT)).toArray) 30 (ints .u32 (nn (zerN 60))) rfl
  rw [jn] at m3'
  have m3 := m3'.row (ints .u32 (nn (zerN 60))) rfl
  have mw := below_setRow (jw.alloc (by rw [jn]; omega) (.cells (ints .u32 (nn (zerN 60))).toArray 30)) (show w.heap.size ≤ w3.heap.size + 1 by omega) (ints .u32 (nn (zerN 60))).toArray
  clear j0 j1 jw
  go_wp2_with (first | (refine wpList_alloc_at rfl 55 rfl _ _ (alloc_z256 _) ?_) | (refine wpList_alloc_at rfl 30 rfl _ _ (alloc_r60 _) ?_) | (refine wpList_build_at rfl 30 _ rfl (.agg (ints .u32 (nn (zerN 60))).toArray) (by kernel_rfl) ?_) | (refine wpList_store_blk rfl 55 _ _ rfl w3.heap.size (ints .u8 (nn boxT)) rfl rfl (Blk.new' w3 55 (ints .u8 (nn (zerN 256))) rfl) (by rw [size_p256]; exact congrArg some (by rw [ints_length, nn_length, HBL.out])) HZ.out.symm (ints_one _ _) ?_) | (refine wpList_store_blk rfl 30 _ _ rfl (w3.heap.size + 1) (ints .u32 (nn (zerN 60))) (by first | rfl | (rw [← jn]; rfl)) rfl m3' (by rw [size_r60, ints_length, nn_length, zerN_len]) rfl (ints_one _ _) ?_))
  generalize World.setRow (World.alloc (World.setRow _ _ _) _) _ _ = w4 at *
  clear j2 jn m3' HZ
  generalize w3.heap.size = bx at *
  have q3 : Blk w4 (bx + 1) 30 (ints .u32 (nn (fillF (kw key) 60 0))) := m3
  clear m3
  go_loopw [5] (fun i wr => ∃ k : Nat, k ≤ 8 ∧ i = .int .i64 k ∧ Blk wr w.heap.size 23 (ints .u8 (nn key)) ∧ Blk wr (w.heap.size + 1) 30 (ints .u32 (nn (zerN 60))) ∧ Blk wr bx 55 (ints .u8 (nn boxT)) ∧ Blk wr (bx + 1) 30 (ints .u32 (nn (fillF (kw key) 60 k))) ∧ Below w.heap.size w wr) (fun i _ => 8 - (intOf i).toNat)
  case atStart => exact ⟨0, by omega, rfl, m0, m1, m2, q3, mw⟩
  case round =>
    obtain ⟨k, hk8, rfl, g0, g1, g2, g3, gb⟩ := hrel
    clear m0 m1 m2 q3 mw
    by_cases hlt : k < 8
    · have hset := fillF_set (kw key) 60 k (by omega)
      have hkw := kw_eq key k
      have v0 := hk (4 * k)
      have v1 := hk (4 * k + 1)
      have v2 := hk (4 * k + 2)
      have v3 := hk (4 * k + 3)
      have c0 := g0.nat (j := 4 * k) (by rw [HLK.out]; omega)
      have c1 := g0.nat (j := 4 * k + 1) (by rw [HLK.out]; omega)
      have c2 := g0.nat (j := 4 * k + 2) (by rw [HLK.out]; omega)
      have c3 := g0.nat (j := 4 * k + 3) (by rw [HLK.out]; omega)
      have ct := g3.nat (j := k) (by rw [fillF_len _ _ _ (by omega)]; omega)
      have hfr := g3.free k
      obtain ⟨A0, A1, A2, S1, S2, z0, z1, z2, z3, s0, s1, s2, o1, o2, o3⟩ := or_bytes _ _ _ _ _ v0 v1 v2 v3 hkw
      have Hs := Lib.hid hset
      clear hset hkw
      generalize kw key k = x at *
      generalize key.getD (4 * k) 0 = y0 at *
      generalize key.getD (4 * k + 1) 0 = y1 at *
      generalize key.getD (4 * k + 2) 0 = y2 at *
      generalize key.getD (4 * k + 3) 0 = y3 at *
      have e0 : IntKind.i64.wrap (4 * (k : Int)) = 4 * (k : Int) := IntWalk.i64_in _ (by omega)
      have e1 : IntKind.i64.wrap (4 * (k : Int) + 1) = 4 * (k : Int) + 1 := IntWalk.i64_in _ (by omega)
      have e2 : IntKind.i64.wrap (4 * (k : Int) + 2) = 4 * (k : Int) + 2 := IntWalk.i64_in _ (by omega)
      have e3 : IntKind.i64.wrap (4 * (k : Int) + 3) = 4 * (k : Int) + 3 := IntWalk.i64_in _ (by omega)
      have f0 : (4 * (k : Int)).toNat = 4 * k := by omega
      have f1 : (4 * (k : Int) + 1).toNat = 4 * k + 1 := by omega
      have f2 : (4 * (k : Int) + 2).toNat = 4 * k + 2 := by omega
      have f3 : (4 * (k : Int) + 3).toNat = 4 * k + 3 := by omega
      have p0 : (0 : Int) ≤ 4 * (k : Int) := by omega
      have p1 : (0 : Int) ≤ 4 * (k : Int) + 1 := by omega
      have p2 : (0 : Int) ≤ 4 * (k : Int) + 2 := by omega
      have p3 : (0 : Int) ≤ 4 * (k : Int) + 3 := by omega
      have q0 : 4 * (k : Int) < 32 := by omega
      have q1 : 4 * (k : Int) + 1 < 32 := by omega
      have q2 : 4 * (k : Int) + 2 < 32 := by omega
      have q3 : 4 * (k : Int) + 3 < 32 := by omega
      have k1 : (k : Int) < 60 := by omega
      have k2 : (k : Int) < 8 := by omega
      go_wp2_with fail
      refine wp_region_still_tail 31 mixedO (by kernel_rfl) ?_
      simp only [List.take_succ_cons, List.take_zero, List.drop_succ_cons, List.drop_zero]
      change wpStill _ _ (World.drew _) _ _ _
      repeat still_step
      refine wpStill_nil ?_
      change wpList _ _ _ _ _ (World.drew _)
      go_wp2
      go_roundw
      case rel =>
        refine ⟨k + 1, by omega, by go_num, ?_, ?_, ?_, ?_, ?_⟩
        · exact (g0.drew).other (by simp <;> omega) _
        · exact (g1.drew).other (by simp <;> omega) _
        · exact (g2.drew).other (by simp <;> omega) _
        · rw [← Hs.out]
          exact (g3.drew).setNat k x
        · exact (below_drewN gb 1).setCell (by simp <;> omega) _
      case measure => simp [intOf]; omega
    · obtain rfl : k = 8 := by omega
      go_wp2
      go_loopw [6, 7, 8] (fun p i _ wr => ∃ n : Nat, 8 ≤ n ∧ n ≤ 60 ∧ i = .int .i64 (n : Int) ∧ p = .int .u8 ((pwAt n : Nat) : Int) ∧ Blk wr (w.heap.size + 1) 30 (ints .u32 (nn (zerN 60))) ∧ Blk wr bx 55 (ints .u8 (nn boxT)) ∧ Blk wr (bx + 1) 30 (ints .u32 (nn (ksN key (n - 8)))) ∧ Below w.heap.size w wr) (fun _ i _ _ => 60 - (intOf i).toNat)
      case atStart => exact ⟨8, by omega, by omega, rfl, rfl, g1, g2, g3, gb⟩
      case round =>
        obtain ⟨n, hn8, hn60, rfl, rfl, h1, h2, h3, hb⟩ := hrel
        clear g0 g1 g2 g3 gb
        by_cases hln : n < 60
        · have hstep := ksN_step key hn8
          have hll := ksN_len key (n - 8)
          have hwd := ksN_words hk (n - 8) (by omega)
          have htl := tempK_lt hwd n (by omega)
          have hdef : tempK (ksN key (n - 8)) n = if n % 8 = 0 then eachN boxG (rotl32 ((ksN key (n - 8)).getD (n - 1) 0) 8) ^^^ (pwAt n * 16777216) else if n % 8 = 4 then eachN boxG ((ksN key (n - 8)).getD (n - 1) 0) else (ksN key (n - 8)).getD (n - 1) 0 := rfl
          have hxx := xor_word _ _ htl (hwd (n - 8))
          have c1 := h3.nat (j := n - 1) (by rw [hll]; omega)
          have hnat : ∀ wx, Blk wx (bx + 1) 30 (ints .u32 (nn (ksN key (n - 8)))) → wx.cell? ⟨bx + 1, n - 8, none⟩ = some (.int .u32 (((ksN key (n - 8)).getD (n - 8) 0 : Nat) : Int)) ∧ wx.cell? ⟨bx + 1, n, none⟩ = some (.int .u32 (((ksN key (n - 8)).getD n 0 : Nat) : Int)) ∧ wx.frozen? ⟨bx + 1, n, none⟩ = false := fun wx h => ⟨h.nat (by rw [hll]; omega), h.nat (by rw [hll]; omega), h.free n⟩
          have hw1 := hwd (n - 1)
          have hp := pwAt_lt (i := n) (by omega)
          have hpn : n % 8 = 0 → mul (pwAt n) 2 = pwAt (n + 1) := pwAt_next hn8 hln
          have hps : n % 8 ≠ 0 → pwAt n = pwAt (n + 1) := pwAt_same
          have Hs := Lib.hid hstep
          have Hpn := Lib.hid hpn
          have Hps := Lib.hid hps
          have HN := Lib.hid hnat
          clear hstep hll hwd hpn hps hnat
          generalize tempK (ksN key (n - 8)) n = tv at *
          generalize (ksN key (n - 8)).getD (n - 8) 0 = v8 at *
          generalize (ksN key (n - 8)).getD (n - 1) 0 = t at *
          generalize (ksN key (n - 8)).getD n 0 = v0 at *
          generalize ksN key (n - 8) = l at *
          generalize pwAt n = p at *
          have b0 : (n : Int) < 60 := by omega
          have b1 : (0 : Int) ≤ (n : Int) - 1 := by omega
          have b2 : ((n : Int) - 1).toNat = n - 1 := by omega
          have b3 : (0 : Int) ≤ (n : Int) - 8 := by omega
          have b4 : ((n : Int) - 8).toNat = n - 8 := by omega
          have b5 : (n : Int) - 1 < 60 := by omega
          have b6 : (n : Int) - 8 < 60 := by omega
          have b7 : (8 : Int) ≤ (n : Int) := by omega
          by_cases hm0 : n % 8 = 0
          · rw [if_pos hm0] at hdef
            have hr := rotl32_lt 8 hw1
            have hrb := rot8_bits t hw1
            have he := eachN_lt boxG_byte (rotl32 t 8)
            have hxp := xor_word _ _ he (show p * 16777216 < 4294967296 by omega)
            rw [← hdef] at hxp
            have hpm : ((p * 16777216 : Nat) : Int) = (p : Int) * 16777216 := by omega
            have HPM := Lib.hid hpm
            have hE := fun w => r_boxed (rotl32 t 8) w hr
            have HE := Lib.hid hE
            have HP := Lib.hid (Hpn.out hm0)
            have HP1 : Hid (∀ w, Calls Try.prog 15 #[.int .u8 (p : Int), .int .u8 2] w fun e w' => e = .returned (.int .u8 (mul p 2 : Nat)) ∧ w = w') := Lib.hid (fun w => r_Times p 2 w hp (by omega))
            have m0 : ((n : Int) % 8 == 0) = true := by rw [beq_iff_eq]; omega
            clear hE hdef he hr hpm hm0 Hpn Hps
            generalize eachN boxG (rotl32 t 8) = ev at *
            generalize rotl32 t 8 = rv at *
            generalize p * 16777216 = pv at *
            go_wp2_with (refine wpList_load_blk rfl 55 _ rfl _ rfl h2 Try.underlying55 rfl (by rw [size_p256, ints_length, nn_length, HBL.out]) ?_)
            refine (HE.out _).mono ?_
            rintro e w1 ⟨rfl, hb1⟩
            have h1' := h1.below hb1 h1.lt
            have h2' := h2.below hb1 h2.lt
            have h3' := h3.below hb1 h3.lt
            have hb' := hb.trans (hb1.mono hb.size)
            obtain ⟨c8, c0, hfr⟩ := HN.out _ h3'
            clear h1 h2 h3 hb c1 hb1
            go_wp2_with (go_at_call 15; (with_reducible refine (HP1.out _).mono ?_); rintro e w' ⟨rfl, rfl⟩)
            go_roundw
            case rel =>
              repeat apply Exists.intro
              refine ⟨?_, rfl⟩
              refine ⟨n + 1, by omega, by omega, by go_num, by rw [← HP.out], ?_, ?_, ?_, ?_⟩
              · exact h1'.other (by simp <;> omega) _
              · exact h2'.other (by simp <;> omega) _
              · rw [Hs.out]
                have := h3'.setNat n (tv ^^^ v8)
                rw [← hxx, ← hxp, HPM.out] at this
                exact this
              · exact hb'.setCell (by simp <;> omega) _
            case measure => simp [intOf]; omega
          · rw [if_neg hm0] at hdef
            have m0 : ((n : Int) % 8 == 0) = false := by rw [beq_eq_false_iff_ne]; omega
            have HP := Lib.hid (Hps.out hm0)
            by_cases hm4 : n % 8 = 4
            · rw [if_pos hm4] at hdef
              have hE := fun w => r_boxed t w hw1
              rw [← hdef] at hE
              have HE := Lib.hid hE
              have m4 : ((n : Int) % 8 == 4) = true := by rw [beq_iff_eq]; omega
              clear hE hdef hm0 hm4 Hpn Hps
              go_wp2_with (refine wpList_load_blk rfl 55 _ rfl _ rfl h2 Try.underlying55 rfl (by rw [size_p256, ints_length, nn_length, HBL.out]) ?_)
              refine (HE.out _).mono ?_
              rintro e w1 ⟨rfl, hb1⟩
              have h1' := h1.below hb1 h1.lt
              have h2' := h2.below hb1 h2.lt
              have h3' := h3.below hb1 h3.lt
              have hb' := hb.trans (hb1.mono hb.size)
              obtain ⟨c8, c0, hfr⟩ := HN.out _ h3'
              clear h1 h2 h3 hb c1 hb1
              go_wp2
              go_roundw
              case rel =>
                repeat apply Exists.intro
                refine ⟨?_, rfl⟩
                refine ⟨n + 1, by omega, by omega, by go_num, by rw [← HP.out], ?_, ?_, ?_, ?_⟩
                · exact h1'.other (by simp <;> omega) _
                · exact h2'.other (by simp <;> omega) _
                · rw [Hs.out]
                  exact h3'.setNat n (tv ^^^ v8)
                · exact hb'.setCell (by simp <;> omega) _
              case measure => simp [intOf]; omega
            · rw [if_neg hm4] at hdef
              have m4 : ((n : Int) % 8 == 4) = false := by rw [beq_eq_false_iff_ne]; omega
              subst hdef
              obtain ⟨c8, c0, hfr⟩ := HN.out _ h3
              clear hm0 hm4 Hpn Hps
              go_wp2
              go_roundw
              case rel =>
                refine ⟨n + 1, by omega, by omega, by go_num, by rw [← HP.out], ?_, ?_, ?_, ?_⟩
                · exact h1.other (by simp <;> omega) _
                · exact h2.other (by simp <;> omega) _
                · rw [Hs.out]
                  exact h3.setNat n (tv ^^^ v8)
                · exact hb.setCell (by simp <;> omega) _
              case measure => simp [intOf]; omega
        · obtain rfl : n = 60 := by omega
          have hE : Blk wr (bx + 1) 30 (ints .u32 (nn L)) := by rw [← HL.out]; exact h3
          clear h3
          go_wp2_with (first | (refine wpList_load_blk rfl 30 _ rfl _ rfl hE Try.underlying30 rfl (by rw [size_r60, ints_length, nn_length, HLen.out]) ?_) | (refine wpList_store_blk rfl 30 _ _ rfl _ _ rfl rfl h1 (by rw [size_r60, ints_length, nn_length, HLen.out]) (by rw [ints_length, ints_length, nn_length, nn_length, HLen.out, zerN_len]) (ints_one _ _) ?_))
          refine bodyPost_ret (v := .agg (ints .u32 (nn L)).toArray) (results_cell_blk rfl _ _ _ rfl (h1.row (ints .u32 (nn L)) (by rw [ints_length, ints_length, nn_length, nn_length, HLen.out, zerN_len])) Try.underlying30 rfl (by rw [size_r60, ints_length, nn_length, HLen.out])) rfl ⟨rfl, below_setRow hb (by omega) _⟩
end Go.Proofs.Ytgagafefhmofjaa
