/- A block's bytes behind each step; walk of the reference's add. -/
import Derived.Test.YtgagafefhmofjaaCipO
import Derived.Test.YtgagafefhmofjaaCipM
namespace Go.Proofs.Ytgagafefhmofjaa
open Go.RowKit
set_option linter.unusedVariables false

theorem kw_dig (b : List Nat) (c : Nat) : kw b c = dig (b.getD (4 * c) 0) (b.getD (4 * c + 1) 0) (b.getD (4 * c + 2) 0) (b.getD (4 * c + 3) 0) := by
  rw [kw_eq]; unfold dig; omega
theorem kw_byte {b : List Nat} (hb : Bys b) (j : Nat) : kw b (j / 4) / 2 ^ (24 - 8 * (j % 4)) % 256 = b.getD j 0 := by
  rw [kw_dig]
  obtain ⟨z1, z2, z3, z4⟩ := dig_bytes (hb (4 * (j / 4))) (hb (4 * (j / 4) + 1)) (hb (4 * (j / 4) + 2)) (hb (4 * (j / 4) + 3))
  have hm : j % 4 = 0 ∨ j % 4 = 1 ∨ j % 4 = 2 ∨ j % 4 = 3 := by omega
  rcases hm with hm | hm | hm | hm <;> rw [hm]
  · exact z1.trans (congrArg (fun i => b.getD i 0) (by omega))
  · exact z2.trans (congrArg (fun i => b.getD i 0) (by omega))
  · exact z3.trans (congrArg (fun i => b.getD i 0) (by omega))
  · exact z4.trans (congrArg (fun i => b.getD i 0) (by omega))
theorem chAll_getD (g : Nat → Nat → Nat) (b : List Nat) (hb : b.length = 16) (j : Nat) (hj : j < 16) : (chAll g b).getD j 0 = g (j / 4) (kw b (j / 4)) / 2 ^ (24 - 8 * (j % 4)) % 256 := by
  rw [chAll_eq]
  have l0 : (putL b 0 (g 0 (kw b 0))).length = 16 := by rw [putL_len, hb]
  have l1 : (putL (putL b 0 (g 0 (kw b 0))) 1 (g 1 (kw b 1))).length = 16 := by rw [putL_len, l0]
  have l2 : (putL (putL (putL b 0 (g 0 (kw b 0))) 1 (g 1 (kw b 1))) 2 (g 2 (kw b 2))).length = 16 := by rw [putL_len, l1]
  rw [putL_getD _ 3 _ j l2 (by omega) hj, putL_getD _ 2 _ j l1 (by omega) hj, putL_getD _ 1 _ j l0 (by omega) hj, putL_getD _ 0 _ j hb (by omega) hj]
  have h : j / 4 = 0 ∨ j / 4 = 1 ∨ j / 4 = 2 ∨ j / 4 = 3 := by omega
  rcases h with h | h | h | h <;> rw [h] <;> simp
/-- a round key added byte by byte -/
def addB (K b : List Nat) (r i : Nat) : Nat := b.getD i 0 ^^^ (K.getD (4 * r + i / 4) 0 / 2 ^ (24 - 8 * (i % 4)) % 256)
def addP (K b : List Nat) (r : Nat) : Nat → List Nat
  | 0 => b
  | i + 1 => (addP K b r i).set i (addB K b r i)
theorem addP_len (K b : List Nat) (r : Nat) : ∀ i, (addP K b r i).length = b.length
  | 0 => rfl
  | i + 1 => by simp [addP, addP_len K b r i]
theorem addP_getD (K b : List Nat) (r : Nat) (hb : b.length = 16) : ∀ n, n ≤ 16 → ∀ i, (addP K b r n).getD i 0 = if i < n then addB K b r i else b.getD i 0 := by
  intro n
  induction n with
  | zero => intro _ i; simp [addP]
  | succ n ih =>
    intro hn i
    show ((addP K b r n).set n (addB K b r n)).getD i 0 = _
    rw [getD_set _ _ _ _ (by rw [addP_len, hb]; omega), ih (by omega)]
    by_cases e : n = i
    · subst e; rw [if_pos rfl, if_pos (by omega)]
    · rw [if_neg e]
      by_cases h2 : i < n
      · rw [if_pos h2, if_pos (by omega)]
      · rw [if_neg h2, if_neg (by omega)]
theorem addP_all (K b : List Nat) (r : Nat) (hb : b.length = 16) (hby : Bys b) : addP K b r 16 = chAll (addG K r) b := by
  refine getD_ext 16 ((addP_len _ _ _ _).trans hb) ((chAll_len _ _).trans hb) fun j hj => ?_
  rw [addP_getD K b r hb 16 (by omega), if_pos hj, chAll_getD _ _ hb j hj]
  unfold addB addG
  rw [byte_xor, kw_byte hby]
theorem lookG_getD (b : List Nat) (hb : b.length = 16) (hby : Bys b) (j : Nat) (hj : j < 16) : (chAll lookG b).getD j 0 = boxG (b.getD j 0) := by
  rw [chAll_getD _ _ hb j hj]
  unfold lookG
  rw [show 24 - 8 * (j % 4) = 8 * (3 - j % 4) by omega, eachN_byte boxG_byte _ _ (by omega), show 8 * (3 - j % 4) = 24 - 8 * (j % 4) by omega, kw_byte hby]
theorem turnL_getD (b : List Nat) (hb : b.length = 16) (i : Nat) (hi : i < 16) : (turnL b).getD i 0 = b.getD ((i / 4 + i % 4) % 4 * 4 + i % 4) 0 := by
  have key : ∀ n, n ≤ 16 → ∀ i, (turnP b n).getD i 0 = if i < n then turnAt b i else b.getD i 0 := by
    intro n
    induction n with
    | zero => intro _ i; simp [turnP]
    | succ n ih =>
      intro hn i
      show ((turnP b n).set n (turnAt b n)).getD i 0 = _
      rw [getD_set _ _ _ _ (by rw [turnP_len, hb]; omega), ih (by omega)]
      by_cases e : n = i
      · subst e; rw [if_pos rfl, if_pos (by omega)]
      · rw [if_neg e]
        by_cases h2 : i < n
        · rw [if_pos h2, if_pos (by omega)]
        · rw [if_neg h2, if_neg (by omega)]
  have := key 16 (by omega) i
  rw [if_pos hi] at this
  exact this
theorem mixG_getD (b : List Nat) (hb : b.length = 16) (hby : Bys b) (c j : Nat) (hc : c < 4) (hj : j < 4) : (chAll mixG b).getD (4 * c + j) 0 = mul (b.getD (4 * c + j) 0) 2 ^^^ mul (b.getD (4 * c + (j + 1) % 4) 0) 3 ^^^ b.getD (4 * c + (j + 2) % 4) 0 ^^^ b.getD (4 * c + (j + 3) % 4) 0 := by
  rw [chAll_getD _ _ hb _ (by omega), show (4 * c + j) / 4 = c by omega, show (4 * c + j) % 4 = j by omega]
  obtain ⟨⟨a1, a2, a3, a4⟩, ⟨b1, b2, b3, b4⟩, c1, c2, c3, c4⟩ := rot_byte (kw b c) (kw_lt hby c)
  have k0 := kw_byte hby (4 * c)
  have k1 := kw_byte hby (4 * c + 1)
  have k2 := kw_byte hby (4 * c + 2)
  have k3 := kw_byte hby (4 * c + 3)
  rw [show 4 * c / 4 = c by omega, show 4 * c % 4 = 0 by omega] at k0
  rw [show (4 * c + 1) / 4 = c by omega, show (4 * c + 1) % 4 = 1 by omega] at k1
  rw [show (4 * c + 2) / 4 = c by omega, show (4 * c + 2) % 4 = 2 by omega] at k2
  rw [show (4 * c + 3) / 4 = c by omega, show (4 * c + 3) % 4 = 3 by omega] at k3
  simp only [Nat.reduceMul, Nat.reduceSub] at k0 k1 k2 k3
  have h : j = 0 ∨ j = 1 ∨ j = 2 ∨ j = 3 := by omega
  rcases h with rfl | rfl | rfl | rfl <;> simp only [Nat.reduceMul, Nat.reduceSub, Nat.reduceAdd, Nat.reduceMod, Nat.add_zero]
  · rw [mix_byte c _ 24 16 8 0 (by omega) a1 b1 c1, k0, k1, k2, k3]; rfl
  · rw [mix_byte c _ 16 8 0 24 (by omega) a2 b2 c2, k0, k1, k2, k3]; rfl
  · rw [mix_byte c _ 8 0 24 16 (by omega) a3 b3 c3, k0, k1, k2, k3]; rfl
  · rw [mix_byte c _ 0 24 16 8 (by omega) a4 b4 c4, k0, k1, k2, k3]; rfl

theorem size_r16 : (Try.prog.info? 33).map (·.size) = some 16 := by kernel_rfl
theorem alloc_r16 (w : World) : (Instr.alloc 33 true (.tuple #[])).run Try.prog w = .ok (.pointer (some ⟨w.heap.size, 0, none⟩)) (w.alloc (.cells (ints .u8 (nn (zerN 16))).toArray 33)) := by kernel_rfl
set_option maxHeartbeats 2000000 in
set_option maxRecDepth 100000 in
theorem r_add (K b : List Nat) (r : Nat) (w : World) (hK : K.length = 60) (hKw : Words K) (hr : r ≤ 14) (hb : b.length = 16) (hby : Bys b) :
    Calls Try.prog 35 #[.agg (ints .u32 (nn K)).toArray, .int .i64 (r : Int), .agg (ints .u8 (nn b)).toArray] w fun e w' => e = .returned (.agg (ints .u8 (nn (chAll (addG K r) b))).toArray) ∧ Below w.heap.size w w' := by
  obtain ⟨L, hL⟩ : ∃ L, chAll (addG K r) b = L := ⟨_, rfl⟩
  have hLL : L.length = 16 := by rw [← hL]; exact (chAll_len _ _).trans hb
  have hall := addP_all K b r hb hby
  rw [hL] at hall ⊢
  have HL := Lib.hid hall
  have HLL := Lib.hid hLL
  have HB := Lib.hid hb
  have HK := Lib.hid hK
  clear hall hLL hb hK hL
  have k0 : Blk (((w.alloc (.cells (ints .u32 (nn K)).toArray 30)).alloc (.cells (ints .u8 (nn b)).toArray 33)).alloc (.cells (ints .u8 (nn (zerN 16))).toArray 33)) w.heap.size 30 (ints .u32 (nn K)) := ((Blk.new _ _ _).alloc _).alloc _
  have k1 : Blk (((w.alloc (.cells (ints .u32 (nn K)).toArray 30)).alloc (.cells (ints .u8 (nn b)).toArray 33)).alloc (.cells (ints .u8 (nn (zerN 16))).toArray 33)) (w.heap.size + 1) 33 (ints .u8 (nn (addP K b r 0))) := (Blk.new2 _ _ _ _ rfl).alloc _
  have k2 : Blk (((w.alloc (.cells (ints .u32 (nn K)).toArray 30)).alloc (.cells (ints .u8 (nn b)).toArray 33)).alloc (.cells (ints .u8 (nn (zerN 16))).toArray 33)) (w.heap.size + 1 + 1) 33 (ints .u8 (nn (zerN 16))) := by
    have := Blk.new2 (w.alloc (.cells (ints .u32 (nn K)).toArray 30)) (.cells (ints .u8 (nn b)).toArray 33) 33 (ints .u8 (nn (zerN 16))) rfl
    rw [World.size_alloc] at this
    exact this
  have kb : Below w.heap.size w (((w.alloc (.cells (ints .u32 (nn K)).toArray 30)).alloc (.cells (ints .u8 (nn b)).toArray 33)).alloc (.cells (ints .u8 (nn (zerN 16))).toArray 33)) := (((Below.refl _ _).alloc (Nat.le_refl _) _).alloc (by simp) _).alloc (by simp; omega) _
  go_enter Try.func35, Try.ntmps35
  go_wp2_with (refine wpList_alloc_at rfl 33 rfl _ _ (alloc_r16 _) ?_)
  generalize World.alloc (World.alloc (World.alloc w _) _) _ = w2 at *
  go_loopw [7] (fun i wr => ∃ k : Nat, k ≤ 16 ∧ i = .int .i64 k ∧ Blk wr w.heap.size 30 (ints .u32 (nn K)) ∧ Blk wr (w.heap.size + 1) 33 (ints .u8 (nn (addP K b r k))) ∧ Blk wr (w.heap.size + 1 + 1) 33 (ints .u8 (nn (zerN 16))) ∧ Below w.heap.size w wr) (fun i _ => 16 - (intOf i).toNat)
  case atStart => exact ⟨0, by omega, rfl, k0, k1, k2, kb⟩
  case round =>
    obtain ⟨k, hk16, rfl, g0, g1, g2, gb⟩ := hrel
    clear k0 k1 k2 kb
    by_cases hlt : k < 16
    · have hs : addP K b r (k + 1) = (addP K b r k).set k (addB K b r k) := rfl
      have hbk : (addP K b r k).getD k 0 = b.getD k 0 := by rw [addP_getD K b r HB.out k (by omega), if_neg (by omega)]
      have c1 := g1.nat (j := k) (by rw [addP_len, HB.out]; omega)
      rw [hbk] at c1
      have hfr := g1.free k
      have c0 := g0.nat (j := 4 * r + k / 4) (by rw [HK.out]; omega)
      have hx := xor_byte (b.getD k 0) (K.getD (4 * r + k / 4) 0 / 2 ^ (24 - 8 * (k % 4)) % 256) (hby k) (Nat.mod_lt _ (by omega))
      rw [show b.getD k 0 ^^^ (K.getD (4 * r + k / 4) 0 / 2 ^ (24 - 8 * (k % 4)) % 256) = addB K b r k from rfl] at hx
      have hcv : IntKind.u8.wrap (((K.getD (4 * r + k / 4) 0 : Nat) : Int) / 2 ^ (24 - 8 * (k % 4))) = ((K.getD (4 * r + k / 4) 0 / 2 ^ (24 - 8 * (k % 4)) % 256 : Nat) : Int) := by
        rw [IntKind.wrap_u8, Int.natCast_emod, Int.natCast_ediv, pow_cast]; rfl
      have Hs := Lib.hid hs
      clear hs hbk
      generalize addB K b r k = nv at *
      generalize K.getD (4 * r + k / 4) 0 / 2 ^ (24 - 8 * (k % 4)) % 256 = kb at *
      generalize K.getD (4 * r + k / 4) 0 = kv at *
      generalize b.getD k 0 = bv at *
      generalize addP K b r k = l at *
      obtain ⟨q, hq4, hqI⟩ : ∃ q : Nat, q < 4 ∧ (k : Int) / 4 = (q : Int) ∧ k / 4 = q := ⟨k / 4, by omega, by omega, rfl⟩
      obtain ⟨m, hm4, hmI⟩ : ∃ m : Nat, m < 4 ∧ (k : Int) % 4 = (m : Int) ∧ k % 4 = m := ⟨k % 4, by omega, by omega, rfl⟩
      rw [hqI.2] at c0
      rw [hmI.2] at hcv
      have j1 := hqI.1
      have j2 := hmI.1
      clear hqI hmI
      have e0 : IntKind.i64.wrap (4 * (r : Int)) = 4 * (r : Int) := IntWalk.i64_in _ (by omega)
      have e1 : IntKind.i64.wrap (4 * (r : Int) + (q : Int)) = 4 * (r : Int) + (q : Int) := IntWalk.i64_in _ (by omega)
      have e2 : (4 * (r : Int) + (q : Int)).toNat = 4 * r + q := by omega
      have e3 : (0 : Int) ≤ 4 * (r : Int) + (q : Int) := by omega
      have e4 : 4 * (r : Int) + (q : Int) < 60 := by omega
      have e5 : IntKind.i64.wrap (8 * (m : Int)) = 8 * (m : Int) := IntWalk.i64_in _ (by omega)
      have e6 : IntKind.i64.wrap (24 - 8 * (m : Int)) = 24 - 8 * (m : Int) := IntWalk.i64_in _ (by omega)
      have e7 : (0 : Int) ≤ 24 - 8 * (m : Int) := by omega
      have e8 : (24 - 8 * (m : Int)).toNat = 24 - 8 * m := by omega
      have e9 : 8 * (m : Int) ≤ 24 := by omega
      have e10 : IntKind.i64.wrap ((k : Int) / 4) = (q : Int) := by rw [j1]; exact IntWalk.i64_in _ (by omega)
      have e11 : (k : Int) < 16 := by omega
      have e12 : IntKind.i64.wrap ((k : Int).tdiv 4) = (q : Int) := by rw [Int.tdiv_eq_ediv_of_nonneg (by omega)]; exact e10
      have e13 : (k : Int).tdiv 4 = (q : Int) := by rw [Int.tdiv_eq_ediv_of_nonneg (by omega)]; exact j1
      have e14 : (k : Int).tmod 4 = (m : Int) := by rw [Int.tmod_eq_emod_of_nonneg (by omega)]; exact j2
      have e15 : IntKind.i64.wrap (q : Int) = (q : Int) := IntWalk.i64_in _ (by omega)
      have e16 : IntKind.i64.wrap (m : Int) = (m : Int) := IntWalk.i64_in _ (by omega)
      clear e10 e12
      go_wp2_with fail
      refine wp_region_still_tail 19 mixedO (by kernel_rfl) ?_
      simp only [List.take_succ_cons, List.take_zero, List.drop_succ_cons, List.drop_zero]
      change wpStill _ _ (World.drew _) _ _ _
      repeat still_step
      refine wpStill_nil ?_
      change wpList _ _ _ _ _ (World.drew _)
      go_wp2
      go_roundw
      case rel =>
        refine ⟨k + 1, by omega, by go_num, ?_, ?_, ?_, ?_⟩
        · exact (g0.drew).other (by simp <;> omega) _
        · rw [Hs.out]
          exact (g1.drew).setNat k nv
        · exact (g2.drew).other (by simp <;> omega) _
        · exact (below_drewN gb 1).setCell (by simp <;> omega) _
      case measure => simp [intOf]; omega
    · obtain rfl : k = 16 := by omega
      have hE : Blk wr (w.heap.size + 1) 33 (ints .u8 (nn L)) := by rw [← HL.out]; exact g1
      clear g1
      go_wp2_with (first | (refine wpList_load_blk rfl 33 _ rfl _ rfl hE Try.underlying33 rfl (by rw [size_r16, ints_length, nn_length, HLL.out]) ?_) | (refine wpList_store_blk rfl 33 _ _ rfl _ _ rfl rfl g2 (by rw [size_r16, ints_length, nn_length, HLL.out]) (by rw [ints_length, ints_length, nn_length, nn_length, HLL.out, zerN_len]) (ints_one _ _) ?_))
      refine bodyPost_ret (v := .agg (ints .u8 (nn L)).toArray) (results_cell_blk rfl _ _ _ rfl (g2.row (ints .u8 (nn L)) (by rw [ints_length, ints_length, nn_length, nn_length, HLL.out, zerN_len])) Try.underlying33 rfl (by rw [size_r16, ints_length, nn_length, HLL.out])) rfl ⟨rfl, below_setRow gb (by omega) _⟩
end Go.Proofs.Ytgagafefhmofjaa
