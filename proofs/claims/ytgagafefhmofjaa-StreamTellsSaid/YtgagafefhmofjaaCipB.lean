/- Walks of RotateLeft8, and of cipher's inverses, Box; the anchor. -/
import Derived.Test.YtgagafefhmofjaaCipA
import Derived.Test.YtgagafefhmofjaaCipT
namespace Go.Proofs.Ytgagafefhmofjaa
open Go.RowKit
set_option linter.unusedVariables false

/-- numbers as a list of bytes' values -/
def nn (l : List Nat) : List Int := l.map fun (n : Nat) => (n : Int)
theorem nn_length (l : List Nat) : (nn l).length = l.length := by simp [nn]
theorem nn_getD (l : List Nat) (j : Nat) : (nn l).getD j 0 = ((l.getD j 0 : Nat) : Int) := by
  unfold nn
  rw [List.getD_eq_getElem?_getD, List.getD_eq_getElem?_getD, List.getElem?_map]
  cases l[j]? <;> rfl
theorem nn_set (l : List Nat) (j n : Nat) : (nn l).set j (n : Int) = nn (l.set j n) := by
  unfold nn; rw [List.map_set]
theorem Blk.nat {w : World} {b : Nat} {t : TypeId} {k : IntKind} {l : List Nat} (h : Blk w b t (ints k (nn l))) {j : Nat} (hj : j < l.length) : w.cell? ⟨b, j, none⟩ = some (.int k ((l.getD j 0 : Nat) : Int)) := by
  rw [h.int (by rw [nn_length]; exact hj), nn_getD]
theorem Blk.setNat {w : World} {b : Nat} {t : TypeId} {k : IntKind} {l : List Nat} (h : Blk w b t (ints k (nn l))) (j n : Nat) : Blk (w.setCell ⟨b, j, none⟩ (.int k (n : Int))) b t (ints k (nn (l.set j n))) := by
  have := h.setInt j (n : Int)
  rwa [nn_set] at this

theorem rotl8_lt (a k : Nat) (ha : a < 256) (hk : k ≤ 8) : rotl8 a k < 256 := by
  unfold rotl8
  refine Nat.or_lt_two_pow (n := 8) (Nat.mod_lt _ (by omega)) (Nat.lt_of_le_of_lt (Nat.div_le_self _ _) ha)
theorem or_byte (a b : Nat) (ha : a < 256) (hb : b < 256) : bits .or .u8 (a : Int) (b : Int) = ((a ||| b : Nat) : Int) :=
  (bits_nat .u8 8 (by decide) wraps_u8 a b ha hb).2
theorem rotl8_bits (a k : Nat) (ha : a < 256) : ((rotl8 a k : Nat) : Int) = bits .or .u8 ((a : Int) * 2 ^ k % 256) ((a : Int) / 2 ^ (8 - k)) := by
  unfold rotl8
  rw [← or_byte _ _ (Nat.mod_lt _ (by omega)) (Nat.lt_of_le_of_lt (Nat.div_le_self _ _) ha)]
  simp
theorem and7 (k : Nat) (h : k ≤ 7) : bits .and .u64 (k : Int) 7 = (k : Int) := by
  have h' : ∀ m : Fin 8, bits .and .u64 (m.val : Int) 7 = (m.val : Int) := by decide
  exact h' ⟨k, by omega⟩
set_option maxHeartbeats 400000 in
set_option maxRecDepth 100000 in
theorem b_rotl8 (a k : Nat) (w : World) (ha : a < 256) (h1 : 1 ≤ k) (h2 : k ≤ 7) :
    Calls Try.prog 40 #[.int .u8 (a : Int), .int .i64 (k : Int)] w fun e w' => e = .returned (.int .u8 (rotl8 a k : Nat)) ∧ w = w' := by
  have hk := and7 k h2
  have hr := rotl8_bits a k ha
  have H := Lib.hid hr
  clear hr
  go_enter Try.func40, Try.ntmps40
  go_wp2
  go_ret
  refine ⟨?_, rfl⟩
  rw [H.out]
  rfl

theorem size_p255 : (Try.prog.info? 74).map (·.size) = some 255 := by kernel_rfl
theorem size_p256 : (Try.prog.info? 55).map (·.size) = some 256 := by kernel_rfl
theorem size_u8 : (Try.prog.info? 5).map (·.size) = some 1 := by kernel_rfl

theorem b_rotl8i (a : Nat) (k : Int) (w : World) (ha : a < 256) (h1 : 1 ≤ k) (h2 : k ≤ 7) :
    Calls Try.prog 40 #[.int .u8 (a : Int), .int .i64 k] w fun e w' => e = .returned (.int .u8 (rotl8 a k.toNat : Nat)) ∧ w = w' := by
  obtain ⟨n, rfl⟩ := Int.eq_ofNat_of_zero_le (show 0 ≤ k by omega)
  rw [Int.toNat_natCast]
  exact b_rotl8 a n w ha (by omega) (by omega)
theorem alloc_p256 (w : World) : (Instr.alloc 55 true (.tuple #[])).run Try.prog w = .ok (.pointer (some ⟨w.heap.size, 0, none⟩)) (w.alloc (.cells (ints .u8 (nn (List.replicate 256 0))).toArray 55)) := by kernel_rfl
theorem alloc_p255 (w : World) : (Instr.alloc 74 true (.tuple #[])).run Try.prog w = .ok (.pointer (some ⟨w.heap.size, 0, none⟩)) (w.alloc (.cells (ints .u8 (nn (List.replicate 255 0))).toArray 74)) := by kernel_rfl
section
variable {P : Program} {ops : Array Oper} {rest : List Oper} {o : Oper} {a : Act} {w : World} {Q : Exit → Act → World → Prop}
/-- a new block, known whole -/
theorem wpList_alloc_at (hgd : o.guard = none) (t : TypeId) (ho : o.op = .alloc t) (v : Value) (ob : Obj) (hrun : (Instr.alloc t true (.tuple #[])).run P w = .ok v (w.alloc ob))
    (h : wpList P ops Q rest (a.put o.dst v) (w.alloc ob)) : wpList P ops Q (o :: rest) a w :=
  wpList_plain hgd fun _ hK => by
    unfold Oper.wp execOp
    simp only [ho, Sem.run_bind, hrun, Result.andThen_ok]
    exact hK _ _ h
end

set_option maxHeartbeats 1000000 in
set_option maxRecDepth 100000 in
theorem c_inverses (w : World) :
    Calls Try.prog 39 #[] w fun e w' => e = .returned (.agg (ints .u8 (nn ((List.range 256).map inv))).toArray) ∧ Below w.heap.size w w' := by
  obtain ⟨Ls, hLs⟩ : ∃ Ls, (List.range 256).map inv = Ls := ⟨_, rfl⟩
  have hLl : Ls.length = 256 := by rw [← hLs]; simp
  rw [hLs]
  have HLs := Lib.hid hLs
  have HL := Lib.hid hLl
  clear hLs hLl
  go_enter Try.func39, Try.ntmps39
  go_wp2_with (first | (refine wpList_alloc_at rfl 55 rfl _ _ (alloc_p256 _) ?_) | (refine wpList_alloc_at rfl 74 rfl _ _ (alloc_p255 _) ?_))
  generalize hw2 : World.alloc (World.alloc w _) _ = w2
  have hb2 : Below w.heap.size w w2 := by rw [← hw2]; exact ((Below.refl _ _).alloc (Nat.le_refl _) _).alloc (by simp) _
  have hs2 : w.heap.size + 2 = w2.heap.size := by rw [← hw2]; simp
  have hk0 : Blk w2 w.heap.size 55 (ints .u8 (nn (List.replicate 256 0))) := by
    rw [← hw2]; exact Blk.alloc (Blk.new' _ _ _ rfl) _
  have hk1 : Blk w2 (w.heap.size + 1) 74 (ints .u8 (nn (fillF powG 255 0))) := by
    rw [← hw2]
    exact Blk.new2 _ _ _ _ rfl
  clear hw2
  have hsz2 : w.heap.size + 2 ≤ w2.heap.size := by omega
  clear hs2
  go_loopw [2, 3, 7] (fun p _ i wr => ∃ k : Nat, k ≤ 255 ∧ i = .int .i64 k ∧ p = .int .u8 ((powG k : Nat) : Int) ∧ Blk wr w.heap.size 55 (ints .u8 (nn (List.replicate 256 0))) ∧ Blk wr (w.heap.size + 1) 74 (ints .u8 (nn (fillF powG 255 k))) ∧ Below w.heap.size w wr) (fun _ _ i _ => 255 - (intOf i).toNat)
  case atStart => exact ⟨0, by omega, rfl, rfl, hk0, hk1, hb2⟩
  case round =>
    obtain ⟨k, hk, rfl, rfl, hz, hf, hb⟩ := hrel
    clear hk0 hk1 hb2
    by_cases hlt : k < 255
    · have hset := fillF_set powG 255 k hlt
      have hnext := powG_next hlt
      have hp := (powG_facts hlt).1
      have Hn := Lib.hid hnext
      have Hs := Lib.hid hset
      clear hnext hset
      generalize powG k = n at *
      have hc := hf.nat (j := k) (by rw [fillF_len _ _ _ hk]; exact hlt)
      have hfr := hf.free k
      have hk64 : (k : Int) < 255 := by omega
      go_wp2_with (go_at_call 14; refine (c_Times n 3 _ hp (by omega)).mono ?_; rintro e w' ⟨rfl, rfl⟩)
      go_roundw
      case rel =>
        refine ⟨k + 1, by omega, by go_num, by rw [← Hn.out], hz.other (by simp) _, ?_, hb.setCell (by simp) _⟩
        rw [← Hs.out]
        exact hf.setNat k n
      case measure => simp [intOf]; omega
    · obtain rfl : k = 255 := by omega
      rw [fillF_full] at hf
      have hszr : w.heap.size + 1 < wr.heap.size := hf.lt
      have hPl : ((List.range 255).map powG).length = 255 := by simp
      have hPg : ∀ i, i < 255 → ((List.range 255).map powG).getD i 0 = powG i := fun i hi => map_range_getD powG 255 i hi
      generalize (List.range 255).map powG = Ps at *
      have HPL := Lib.hid hPl
      have HPG := Lib.hid hPg
      clear hPl hPg hk
      go_wp2_with (first | (refine wpList_load_blk rfl 74 _ rfl _ rfl (hf.alloc _) Try.underlying74 rfl (by rw [size_p255, ints_length, nn_length, HPL.out]) ?_) | (refine wpList_alloc_at rfl 55 rfl _ _ (alloc_p256 _) ?_))
      generalize hw3 : World.alloc wr _ = w3
      have hb3 : Below w.heap.size w w3 := by rw [← hw3]; exact hb.alloc (by omega) _
      have hz3 : Blk w3 w.heap.size 55 (ints .u8 (nn (List.replicate 256 0))) := by rw [← hw3]; exact hz.alloc _
      have hf3 : Blk w3 (w.heap.size + 1) 74 (ints .u8 (nn Ps)) := by rw [← hw3]; exact hf.alloc _
      have hn3 : Blk w3 wr.heap.size 55 (ints .u8 (nn (invS 0))) := by rw [← hw3, invS_zero]; exact Blk.new _ _ _
      have hszn : w.heap.size + 1 < wr.heap.size := hszr
      clear hw3 hb hz hf hszr
      generalize wr.heap.size = bn at *
      go_loopw [5, 6, 17] (fun _ _ i wr => ∃ k : Nat, k ≤ 255 ∧ i = .int .i64 k ∧ Blk wr w.heap.size 55 (ints .u8 (nn (List.replicate 256 0))) ∧ Blk wr (w.heap.size + 1) 74 (ints .u8 (nn Ps)) ∧ Blk wr bn 55 (ints .u8 (nn (invS k))) ∧ Below w.heap.size w wr) (fun _ _ i _ => 255 - (intOf i).toNat)
      case atStart => exact ⟨0, by omega, rfl, hz3, hf3, hn3, hb3⟩
      case round =>
        obtain ⟨k, hk, rfl, hz, hf, hn, hb⟩ := hrel
        clear hz3 hf3 hn3 hb3
        by_cases hlt : k < 255
        · have hset := invS_set hlt
          have hp := (powG_facts hlt).1
          have hq := (powG_facts (Nat.mod_lt (255 - k) (show 255 > 0 by omega))).1
          have Hs := Lib.hid hset
          have hix := fun w => run_index_ints (P := Try.prog) 74 5 255 .u8 .i64 (nn Ps) k Try.underlying74 ⟨_, Try.underlying5, rfl⟩ size_u8 (by rw [nn_length, HPL.out]) hlt w
          rw [nn_getD, HPG.out k hlt] at hix
          have hc := hf.nat (j := (255 - k) % 255) (by rw [HPL.out]; exact Nat.mod_lt _ (by omega))
          rw [HPG.out _ (Nat.mod_lt _ (by omega))] at hc
          have hc2 := hn.nat (j := powG k) (by rw [invS_len]; exact hp)
          have hfr := hn.free (powG k)
          clear hset
          generalize powG ((255 - k) % 255) = q at *
          generalize powG k = n at *
          have m1 : (255 - (k : Int)) % 255 = (((255 - k) % 255 : Nat) : Int) := by omega
          have m2 : (255 - k) % 255 < 255 := Nat.mod_lt _ (by omega)
          generalize (255 - k) % 255 = m at *
          have m3 : (m : Int) < 255 := by omega
          have m4 : (n : Int) < 256 := by omega
          have m5 : (k : Int) < 255 := by omega
          clear m2
          go_wp2
          go_roundw
          case rel =>
            refine ⟨k + 1, by omega, by go_num, hz.other (by simp; omega) _, hf.other (by simp; omega) _, ?_, hb.setCell (by simp; omega) _⟩
            rw [← Hs.out]
            exact hn.setNat n q
          case measure => simp [intOf]; omega
        · obtain rfl : k = 255 := by omega
          rw [invS_full, HLs.out] at hn
          go_wp2_with (first | (refine wpList_load_blk rfl 55 _ rfl _ rfl hn Try.underlying55 rfl (by rw [size_p256, ints_length, nn_length, HL.out]) ?_) | (refine wpList_store_blk rfl 55 _ _ rfl _ _ rfl rfl hz (by rw [size_p256, ints_length, nn_length, HL.out]) (by rw [ints_length, ints_length, nn_length, nn_length, HL.out]; rfl) (ints_one _ _) ?_))
          refine bodyPost_ret (v := .agg (ints .u8 (nn Ls)).toArray) (results_cell_blk rfl _ _ _ rfl (hz.row (ints .u8 (nn Ls)) (by rw [ints_length, ints_length, nn_length, nn_length, HL.out]; rfl)) Try.underlying55 rfl (by rw [size_p256, ints_length, nn_length, HL.out])) rfl ⟨rfl, below_setRow hb (Nat.le_refl _) _⟩

set_option maxHeartbeats 1000000 in
set_option maxRecDepth 100000 in
theorem c_Box (w : World) :
    Calls Try.prog 26 #[] w fun e w' => e = .returned (.agg (ints .u8 (nn boxT)).toArray) ∧ Below w.heap.size w w' := by
  have hIl : ((List.range 256).map inv).length = 256 := by simp
  have hIg : ∀ i, i < 256 → ((List.range 256).map inv).getD i 0 = inv i := fun i hi => map_range_getD inv 256 i hi
  have hinv := fun w => c_inverses w
  have hIi := Lib.hid hinv
  clear hinv
  generalize (List.range 256).map inv = Is at *
  have HIL := Lib.hid hIl
  have HIG := Lib.hid hIg
  clear hIl hIg
  go_enter Try.func26, Try.ntmps26
  go_wp2_with (first | (refine wpList_alloc_at rfl 55 rfl _ _ (alloc_p256 _) ?_) | (go_at_call 39; refine (hIi.out _).mono ?_; rintro e w9 ⟨rfl, hb9⟩))
  have hb2 : Below w.heap.size w w9 := (((Below.refl _ _).alloc (Nat.le_refl _) _).alloc (by simp) _).trans (hb9.mono (by simp; omega))
  have hk0 : Blk w9 w.heap.size 55 (ints .u8 (nn (List.replicate 256 0))) :=
    (Blk.alloc (Blk.new' _ _ _ rfl) _).below hb9 (by simp; omega)
  have hk1 : Blk w9 (w.heap.size + 1) 55 (ints .u8 (nn (fillF sbox 256 0))) := by
    rw [fillF_zero]
    exact (Blk.new2 _ _ _ _ rfl).below hb9 (by simp)
  clear hb9
  go_loopw [2, 3, 5] (fun _ _ i wr => ∃ k : Nat, k ≤ 256 ∧ i = .int .i64 k ∧ Blk wr w.heap.size 55 (ints .u8 (nn (List.replicate 256 0))) ∧ Blk wr (w.heap.size + 1) 55 (ints .u8 (nn (fillF sbox 256 k))) ∧ Below w.heap.size w wr) (fun _ _ i _ => 256 - (intOf i).toNat)
  case atStart => exact ⟨0, by omega, rfl, hk0, hk1, hb2⟩
  case round =>
    obtain ⟨k, hk, rfl, hz, hf, hb⟩ := hrel
    clear hk0 hk1 hb2
    by_cases hlt : k < 256
    · have hset := fillF_set sbox 256 k hlt
      have hp := inv_lt hlt
      have hix := fun w => run_index_ints (P := Try.prog) 55 5 256 .u8 .i64 (nn Is) k Try.underlying55 ⟨_, Try.underlying5, rfl⟩ size_u8 (by rw [nn_length, HIL.out]) hlt w
      rw [nn_getD, HIG.out k hlt] at hix
      have hc := hf.nat (j := k) (by rw [fillF_len _ _ _ hk]; exact hlt)
      have hfr := hf.free k
      have hs : sbox k = affine (inv k) := rfl
      generalize inv k = n at *
      have hk64 : (k : Int) < 256 := by omega
      have x1 := xor_byte 99 n (by omega) hp
      have l1 := xor_lt (a := 99) (by omega) hp
      have r1 := rotl8_lt n 1 hp (by omega)
      have r2 := rotl8_lt n 2 hp (by omega)
      have r3 := rotl8_lt n 3 hp (by omega)
      have r4 := rotl8_lt n 4 hp (by omega)
      have x2 := xor_byte _ _ l1 r1
      have l2 := xor_lt l1 r1
      have x3 := xor_byte _ _ l2 r2
      have l3 := xor_lt l2 r2
      have x4 := xor_byte _ _ l3 r3
      have l4 := xor_lt l3 r3
      have x5 := xor_byte _ _ l4 r4
      unfold affine at hs
      rw [← hs] at x5
      have Hs := Lib.hid hset
      clear hset hs l1 l2 l3 l4 r1 r2 r3 r4
      generalize sbox k = sb at *
      have X1 := Lib.hid x1
      have X2 := Lib.hid x2
      have X3 := Lib.hid x3
      have X4 := Lib.hid x4
      have X5 := Lib.hid x5
      clear x1 x2 x3 x4 x5
      go_wp2_with (go_at_call 40; refine (b_rotl8i n _ _ hp (by omega) (by omega)).mono ?_; rintro e w' ⟨rfl, rfl⟩)
      go_roundw
      case rel =>
        refine ⟨k + 1, by omega, by go_num, hz.other (by simp) _, ?_, hb.setCell (by simp) _⟩
        rw [← Hs.out]
        have := hf.setNat k sb
        rw [← X5.out, ← X4.out, ← X3.out, ← X2.out, ← X1.out] at this
        exact this
      case measure => simp [intOf]; omega
    · obtain rfl : k = 256 := by omega
      rw [fillF_full, sboxL] at hf
      have hB := boxT_len
      have HB := Lib.hid hB
      clear hB
      go_wp2_with (first | (refine wpList_load_blk rfl 55 _ rfl _ rfl hf Try.underlying55 rfl (by rw [size_p256, ints_length, nn_length, HB.out]) ?_) | (refine wpList_store_blk rfl 55 _ _ rfl _ _ rfl rfl hz (by rw [size_p256, ints_length, nn_length, HB.out]) (by rw [ints_length, ints_length, nn_length, nn_length, HB.out]; rfl) (ints_one _ _) ?_))
      refine bodyPost_ret (v := .agg (ints .u8 (nn boxT)).toArray) (results_cell_blk rfl _ _ _ rfl (hz.row (ints .u8 (nn boxT)) (by rw [ints_length, ints_length, nn_length, nn_length, HB.out]; rfl)) Try.underlying55 rfl (by rw [size_p256, ints_length, nn_length, HB.out])) rfl ⟨rfl, below_setRow hb (Nat.le_refl _) _⟩

theorem cell_setRow_nat {w : World} (t : TypeId) (k : IntKind) (c : Array Value) (l : List Nat) (j x : Nat) (hj : j < l.length) (hx : l.getD j 0 = x) :
    ((w.alloc (.cells c t)).setRow w.heap.size (ints k (nn l)).toArray).cell? ⟨w.heap.size, j, none⟩ = some (.int k (x : Int)) := by
  have h : Blk (w.alloc (.cells c t)) w.heap.size t c.toList := Blk.new' w t c.toList (by simp)
  have h2 : Blk ((w.alloc (.cells c t)).setRow w.heap.size (ints k (nn l)).toArray) w.heap.size t (ints k (nn l)) := setRow_heap _ _ _ _ _ _ h
  rw [h2.nat hj, hx]
theorem times_shown : mul 2 128 = 27 := by decide +kernel
set_option maxHeartbeats 1000000 in
set_option maxRecDepth 100000 in
theorem l_shown (w : World) :
    Calls Try.prog 16 #[] w fun e w' => e = .returned (.bool true) ∧ Below w.heap.size w w' := by
  have hL := boxT_len
  have h0 : boxT.getD 0 0 = 99 := by decide +kernel
  have h83 : boxT.getD 83 0 = 237 := by decide +kernel
  have hS := fun w => c_Box w
  have hT := fun w => c_Times 2 128 w (by omega) (by omega)
  rw [times_shown] at hT
  have HS := Lib.hid hS
  have HL := Lib.hid hL
  have H0 := Lib.hid h0
  have H83 := Lib.hid h83
  have HT := Lib.hid hT
  clear hS hL h0 h83 hT
  generalize boxT = B at *
  go_enter Try.func16, Try.ntmps16
  go_wp2_with fail
  refine (HS.out _).mono ?_
  rintro e w1 ⟨rfl, hb1⟩
  have c0 := fun c => cell_setRow_nat (w := w1) 55 .u8 c B 0 99 (by rw [HL.out]; omega) H0.out
  have c83 := fun c => cell_setRow_nat (w := w1) 55 .u8 c B 83 237 (by rw [HL.out]; omega) H83.out
  go_wp2_with (first | (refine wpList_alloc_at rfl 55 rfl _ _ (alloc_p256 _) ?_) | (refine wpList_store_blk rfl 55 _ _ rfl w1.heap.size (ints .u8 (nn B)) rfl rfl (Blk.new' w1 55 (ints .u8 (nn (List.replicate 256 0))) rfl) (by rw [size_p256]; exact congrArg some (by rw [ints_length, nn_length, HL.out])) (by rw [ints_length, ints_length, nn_length, nn_length, HL.out]; rfl) (ints_one _ _) ?_) | (go_at_call 14; refine (HT.out _).mono ?_; rintro e w' ⟨rfl, rfl⟩))
  go_ret
  exact ⟨rfl, below_setRow (hb1.alloc hb1.size _) hb1.size _⟩
end Go.Proofs.Ytgagafefhmofjaa
