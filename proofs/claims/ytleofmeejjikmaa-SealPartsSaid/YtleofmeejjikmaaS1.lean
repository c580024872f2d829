/- Blocks as numbers of 128 bits, plain numbers. -/
import Derived.Test.YtleofmeejjikmaaC1
import Derived.Test.YtleofmeejjikmaaC2
import Derived.Test.YtleofmeejjikmaaG1
import Derived.Test.YtleofmeejjikmaaG2
import Derived.WalkMore
import Derived.OpenShut
namespace Go.Proofs.Ytleofmeejjikmaa
set_option linter.unusedVariables false

/-- the number of the first k bytes -/
def numP (c : List Nat) : Nat → Nat
  | 0 => 0
  | k + 1 => numP c k * 256 + c.getD k 0
def num (c : List Nat) : Nat := numP c 16
def dgt (N j : Nat) : Nat := N / 256 ^ (15 - j) % 256
def digL (N : Nat) : List Nat := (List.range 16).map (dgt N)
/-- c and n, round 2^128 -/
def nextL (c : List Nat) (n : Nat) : List Nat := digL (num c + n)

theorem dgt_lt (N j : Nat) : dgt N j < 256 := Nat.mod_lt _ (by omega)
theorem digL_len (N : Nat) : (digL N).length = 16 := by simp [digL]
theorem digL_getD (N j : Nat) (h : j < 16) : (digL N).getD j 0 = dgt N j := map_range_getD _ _ _ h
theorem digL_bys (N : Nat) : Bys (digL N) := by
  intro j
  by_cases h : j < 16
  · rw [digL_getD _ _ h]; exact dgt_lt _ _
  · rw [List.getD_eq_getElem?_getD, List.getElem?_eq_none (by rw [digL_len]; omega)]; decide
theorem nextL_len (c : List Nat) (n : Nat) : (nextL c n).length = 16 := digL_len _
theorem nextL_bys (c : List Nat) (n : Nat) : Bys (nextL c n) := digL_bys _

theorem numP_dgt {c : List Nat} (h : Bys c) : ∀ m k, k < m → numP c m / 256 ^ k % 256 = c.getD (m - 1 - k) 0 := by
  intro m
  induction m with
  | zero => intro k hk; omega
  | succ m ih =>
    intro k hk
    have hm := h m
    cases k with
    | zero =>
      show (numP c m * 256 + c.getD m 0) / 256 ^ 0 % 256 = c.getD m 0
      simp only [Nat.pow_zero, Nat.div_one]
      omega
    | succ k =>
      show (numP c m * 256 + c.getD m 0) / 256 ^ (k + 1) % 256 = _
      rw [Nat.pow_succ', ← Nat.div_div_eq_div_mul, show (numP c m * 256 + c.getD m 0) / 256 = numP c m by omega, ih k (by omega), show m + 1 - 1 - (k + 1) = m - 1 - k by omega]
theorem num_dgt {c : List Nat} (h : Bys c) (j : Nat) (hj : j < 16) : dgt (num c) j = c.getD j 0 := by
  have := numP_dgt h 16 (15 - j) (by omega)
  rw [show 16 - 1 - (15 - j) = j by omega] at this
  exact this
theorem digL_num {c : List Nat} (hl : c.length = 16) (h : Bys c) : digL (num c) = c :=
  getD_ext 16 (digL_len _) hl fun j hj => by rw [digL_getD _ _ hj, num_dgt h j hj]

theorem dgt_mod (N j : Nat) (hj : j < 16) : dgt (N % 256 ^ 16) j = dgt N j := by
  unfold dgt
  rw [show (256 : Nat) ^ 16 = 256 ^ (15 - j) * 256 ^ (j + 1) by rw [← Nat.pow_add]; congr 1; omega, Nat.mod_mul_right_div_self]
  exact Nat.mod_mod_of_dvd _ ⟨256 ^ j, by rw [Nat.pow_succ, Nat.mul_comm]⟩
theorem numP_digL (N : Nat) : ∀ m, m ≤ 16 → numP (digL N) m = N % 256 ^ 16 / 256 ^ (16 - m) := by
  intro m
  induction m with
  | zero =>
    intro _
    show 0 = _
    exact (Nat.div_eq_of_lt (Nat.mod_lt _ (Nat.pow_pos (by omega)))).symm
  | succ m ih =>
    intro hm
    show numP (digL N) m * 256 + (digL N).getD m 0 = _
    rw [ih (by omega), digL_getD _ _ (by omega), ← dgt_mod _ _ (by omega)]
    unfold dgt
    generalize N % 256 ^ 16 = X
    rw [show 16 - m = (15 - m) + 1 by omega, Nat.pow_succ, ← Nat.div_div_eq_div_mul, show 16 - (m + 1) = 15 - m by omega]
    generalize X / 256 ^ (15 - m) = y
    omega
theorem num_digL (N : Nat) : num (digL N) = N % 256 ^ 16 := by
  have := numP_digL N 16 (Nat.le_refl _)
  rw [Nat.sub_self, Nat.pow_zero, Nat.div_one] at this
  exact this
theorem digL_mod (N : Nat) : digL (N % 256 ^ 16) = digL N :=
  getD_ext 16 (digL_len _) (digL_len _) fun j hj => (digL_getD _ j hj).trans ((dgt_mod N j hj).trans (digL_getD N j hj).symm)
theorem nextL_nextL (c : List Nat) (a b : Nat) : nextL (nextL c a) b = nextL c (a + b) := by
  unfold nextL
  rw [num_digL, ← digL_mod, Nat.mod_add_mod, digL_mod, Nat.add_assoc]
theorem nextL_zero {c : List Nat} (hl : c.length = 16) (h : Bys c) : nextL c 0 = c := by
  unfold nextL
  rw [Nat.add_zero]
  exact digL_num hl h

/-- the block behind t steps, from its end on -/
def nxF (c : List Nat) (n t j : Nat) : Nat := if 16 - t ≤ j then dgt (num c + n) j else c.getD j 0
def nxP (c : List Nat) (n t : Nat) : List Nat := (List.range 16).map (nxF c n t)
theorem nxP_len (c : List Nat) (n t : Nat) : (nxP c n t).length = 16 := by simp [nxP]
theorem nxP_zero {c : List Nat} (hl : c.length = 16) (n : Nat) : nxP c n 0 = c :=
  getD_ext 16 (nxP_len _ _ _) hl fun j hj => by
    unfold nxP
    rw [map_range_getD _ _ _ hj]
    exact if_neg (by omega)
theorem nxP_all (c : List Nat) (n : Nat) : nxP c n 16 = nextL c n :=
  getD_ext 16 (nxP_len _ _ _) (nextL_len _ _) fun j hj => by
    unfold nxP nextL
    rw [map_range_getD _ _ _ hj, digL_getD _ _ hj]
    exact if_pos (by omega)
theorem nxP_at (c : List Nat) (n t : Nat) (ht : t < 16) : (nxP c n t).getD (15 - t) 0 = c.getD (15 - t) 0 := by
  unfold nxP
  rw [map_range_getD _ _ _ (by omega)]
  exact if_neg (by omega)
/-- what is carried to the step t -/
def cry (V n t : Nat) : Nat := (V % 256 ^ t + n % 256 ^ t) / 256 ^ t
theorem cry_le (V n t : Nat) : cry V n t ≤ 1 := by
  unfold cry
  have h1 : V % 256 ^ t < 256 ^ t := Nat.mod_lt _ (Nat.pow_pos (by omega))
  have h2 : n % 256 ^ t < 256 ^ t := Nat.mod_lt _ (Nat.pow_pos (by omega))
  have : (V % 256 ^ t + n % 256 ^ t) / 256 ^ t < 2 := Nat.div_lt_of_lt_mul (by omega)
  omega
theorem cry_zero (V n : Nat) : cry V n 0 = 0 := by simp [cry, Nat.mod_one]
/-- the sum at the step t -/
def sumN (c : List Nat) (n t : Nat) : Nat := c.getD (15 - t) 0 + n / 256 ^ t % 256 + cry (num c) n t
theorem sumN_lt {c : List Nat} (h : Bys c) (n t : Nat) : sumN c n t < 512 := by
  have := h (15 - t)
  have := cry_le (num c) n t
  unfold sumN
  omega
theorem add_div3 (V n P : Nat) (hP : 0 < P) : (V + n) / P = V / P + n / P + (V % P + n % P) / P := by
  have e1 := Nat.div_add_mod V P
  have e2 := Nat.div_add_mod n P
  calc (V + n) / P = (P * (V / P + n / P) + (V % P + n % P)) / P := by rw [Nat.mul_add]; congr 1; omega
    _ = _ := Nat.mul_add_div hP _ _
theorem sumN_dig {c : List Nat} (h : Bys c) (n t : Nat) (ht : t < 16) : sumN c n t % 256 = dgt (num c + n) (15 - t) := by
  unfold sumN dgt cry
  rw [← num_dgt h _ (show 15 - t < 16 by omega)]
  unfold dgt
  rw [show 15 - (15 - t) = t by omega, add_div3 (num c) n (256 ^ t) (Nat.pow_pos (by omega))]
  generalize num c / 256 ^ t = x
  generalize n / 256 ^ t = y
  generalize (num c % 256 ^ t + n % 256 ^ t) / 256 ^ t = z
  omega
theorem sumN_cry {c : List Nat} (h : Bys c) (n t : Nat) (ht : t < 16) : sumN c n t / 256 = cry (num c) n (t + 1) := by
  unfold sumN
  rw [← num_dgt h _ (show 15 - t < 16 by omega)]
  unfold dgt cry
  rw [show 15 - (15 - t) = t by omega]
  have hP : 0 < 256 ^ t := Nat.pow_pos (by omega)
  rw [Nat.pow_succ, Nat.mod_mul, Nat.mod_mul, ← Nat.div_div_eq_div_mul]
  generalize num c / 256 ^ t % 256 = x
  generalize n / 256 ^ t % 256 = y
  rw [show num c % 256 ^ t + 256 ^ t * x + (n % 256 ^ t + 256 ^ t * y) = 256 ^ t * (x + y) + (num c % 256 ^ t + n % 256 ^ t) by rw [Nat.mul_add]; omega, Nat.mul_add_div hP]
theorem nxP_succ {c : List Nat} (h : Bys c) (n t : Nat) (ht : t < 16) : nxP c n (t + 1) = (nxP c n t).set (15 - t) (sumN c n t % 256) :=
  getD_ext 16 (nxP_len _ _ _) (by rw [List.length_set, nxP_len]) fun j hj => by
    rw [getD_set _ _ _ _ (by rw [nxP_len]; omega)]
    unfold nxP
    rw [map_range_getD _ _ _ hj, map_range_getD _ _ _ hj]
    unfold nxF
    by_cases e : 15 - t = j
    · subst e
      rw [if_pos rfl, if_pos (by omega), sumN_dig h n t ht]
    · rw [if_neg e]
      by_cases h2 : 16 - t ≤ j
      · rw [if_pos h2, if_pos (by omega)]
      · rw [if_neg h2, if_neg (by omega)]
end Go.Proofs.Ytleofmeejjikmaa
namespace Go.Proofs.Ytleofmeejjikmaa
open Go.RowKit
set_option linter.unusedVariables false

theorem and255_64 (x : Nat) (h : x < 2 ^ 64) : bits .and .u64 (x : Int) 255 = ((x % 256 : Nat) : Int) := by
  have e := (bits_nat .u64 64 (by decide) wraps_u64 x 255 h (by omega)).1
  rw [show ((255 : Nat) : Int) = 255 by rfl] at e
  rw [e, show (255 : Nat) = 2 ^ 8 - 1 by rfl, Nat.and_two_pow_sub_one_eq_mod]
theorem div256 (N t : Nat) : N / 256 ^ t / 256 = N / 256 ^ (t + 1) := by rw [Nat.div_div_eq_div_mul, Nat.pow_succ]

set_option maxHeartbeats 2000000 in
set_option maxRecDepth 100000 in
theorem s_Next (c : List Nat) (N : Nat) (w : World) (hc : c.length = 16) (hcb : Bys c) (hN : N < 2 ^ 64) :
    Calls Try.prog 54 #[.agg (ints .u8 (nn c)).toArray, .int .u64 (N : Int)] w fun e w' => e = .returned (.agg (ints .u8 (nn (nextL c N))).toArray) ∧ Below w.heap.size w w' := by
  obtain ⟨L, hL⟩ : ∃ L, nextL c N = L := ⟨_, rfl⟩
  have hLL : L.length = 16 := by rw [← hL]; exact nextL_len _ _
  have hall := nxP_all c N
  rw [hL] at hall ⊢
  have HL := Lib.hid hall
  have HLL := Lib.hid hLL
  have hz := nxP_zero hc N
  have HZ := Lib.hid hz
  clear hall hLL hc hL hz
  have k0 : Blk ((w.alloc (.cells (ints .u8 (nn c)).toArray 23)).alloc (.cells (ints .u8 (nn (zerN 16))).toArray 23)) w.heap.size 23 (ints .u8 (nn (nxP c N 0))) := by
    rw [HZ.out]; exact (Blk.new _ _ _).alloc _
  have k1 : Blk ((w.alloc (.cells (ints .u8 (nn c)).toArray 23)).alloc (.cells (ints .u8 (nn (zerN 16))).toArray 23)) (w.heap.size + 1) 23 (ints .u8 (nn (zerN 16))) := Blk.new2 _ _ _ _ rfl
  have kb : Below w.heap.size w ((w.alloc (.cells (ints .u8 (nn c)).toArray 23)).alloc (.cells (ints .u8 (nn (zerN 16))).toArray 23)) := ((Below.refl _ _).alloc (Nat.le_refl _) _).alloc (by simp) _
  go_enter Try.func54, Try.ntmps54
  go_wp2_with (refine wpList_alloc_at rfl 23 rfl _ _ (alloc_b16 _) ?_)
  generalize World.alloc (World.alloc w _) _ = w2 at *
  have n0 : N / 256 ^ 0 = N := by simp
  have c0 := cry_zero (num c) N
  go_loopw [1, 5, 6] (fun nv cv i wr => ∃ t : Nat, t ≤ 16 ∧ nv = .int .u64 ((N / 256 ^ t : Nat) : Int) ∧ cv = .int .u64 ((cry (num c) N t : Nat) : Int) ∧ i = .int .i64 (15 - (t : Int)) ∧ Blk wr w.heap.size 23 (ints .u8 (nn (nxP c N t))) ∧ Blk wr (w.heap.size + 1) 23 (ints .u8 (nn (zerN 16))) ∧ Below w.heap.size w wr) (fun _ _ i _ => (intOf i + 1).toNat)
  case atStart => exact ⟨0, by omega, by rw [n0], by rw [c0]; rfl, rfl, k0, k1, kb⟩
  case round =>
    obtain ⟨t, ht, rfl, rfl, rfl, g0, g1, gb⟩ := hrel
    clear k0 k1 kb n0 c0
    by_cases hlt : t < 16
    · have hs := nxP_succ hcb N t hlt
      have hcr := sumN_cry hcb N t hlt
      have hdv := div256 N t
      have hnv : N / 256 ^ t < 2 ^ 64 := Nat.lt_of_le_of_lt (Nat.div_le_self _ _) hN
      have hcl := cry_le (num c) N t
      have hsd : sumN c N t = c.getD (15 - t) 0 + N / 256 ^ t % 256 + cry (num c) N t := rfl
      have hcv := hcb (15 - t)
      have c1 := g0.nat (j := 15 - t) (by rw [nxP_len]; omega)
      rw [nxP_at c N t hlt] at c1
      have hfr := g0.free (15 - t)
      have Hs := Lib.hid hs
      have Hcr := Lib.hid hcr
      have Hdv := Lib.hid hdv
      clear hs hcr hdv
      generalize sumN c N t = S at *
      generalize N / 256 ^ t = nv at *
      generalize c.getD (15 - t) 0 = cv at *
      generalize cry (num c) N t = cr at *
      generalize nxP c N t = l at *
      have hnv1 : (nv : Int) < 18446744073709551616 := by omega
      have hnv2 : (0 : Int) ≤ (nv : Int) := by omega
      have f0 : IntKind.u64.wrap (cv : Int) = (cv : Int) := wraps_u64 _ (by omega) (by omega)
      have f1 := and255_64 nv hnv
      have f2 : IntKind.u64.wrap ((cv : Int) + ((nv % 256 : Nat) : Int)) = ((cv + nv % 256 : Nat) : Int) := wraps_u64 _ (by omega) (by omega)
      have f3 : IntKind.u64.wrap (((cv + nv % 256 : Nat) : Int) + (cr : Int)) = (S : Int) := by rw [wraps_u64 _ (by omega) (by omega)]; omega
      have f4 : IntKind.u8.wrap (S : Int) = ((S % 256 : Nat) : Int) := by rw [IntKind.wrap_u8]; rfl
      have e0 : (0 : Int) ≤ 15 - (t : Int) := by omega
      have e1 : (15 - (t : Int)).toNat = 15 - t := by omega
      have e2 : (15 : Int) - (t : Int) < 16 := by omega
      have e3 : (t : Int) ≤ 15 := by omega
      have e4 : IntKind.i64.wrap (15 - (t : Int) - 1) = 15 - ((t : Int) + 1) := by rw [IntWalk.i64_in _ (by omega)]; omega
      have hS := hsd
      clear hsd
      go_wp2
      go_roundw
      case rel =>
        refine ⟨t + 1, by omega, ?_, ?_, ?_, ?_, ?_, ?_⟩
        · rw [← Hdv.out]; go_num
        · rw [← Hcr.out]; go_num
        · go_num
        · rw [Hs.out]
          have q := g0.setNat (15 - t) (S % 256)
          rw [show ((S % 256 : Nat) : Int) = ((cv : Int) + (nv : Int) % 256 + (cr : Int)) % 256 by omega] at q
          exact q
        · exact g1.other (by simp <;> omega) _
        · exact gb.setCell (by simp <;> omega) _
      case measure => simp [intOf]; omega
    · obtain rfl : t = 16 := by omega
      have hE : Blk wr w.heap.size 23 (ints .u8 (nn L)) := by rw [← HL.out]; exact g0
      clear g0
      go_wp2_with (first | (refine wpList_load_blk rfl 23 _ rfl _ rfl hE Try.underlying23 rfl (by rw [size_b16, ints_length, nn_length, HLL.out]) ?_) | (refine wpList_store_blk rfl 23 _ _ rfl _ _ rfl rfl g1 (by rw [size_b16, ints_length, nn_length, HLL.out]) (by rw [ints_length, ints_length, nn_length, nn_length, HLL.out, zerN_len]) (ints_one _ _) ?_))
      refine bodyPost_ret (v := .agg (ints .u8 (nn L)).toArray) (results_cell_blk rfl _ _ _ rfl (g1.row (ints .u8 (nn L)) (by rw [ints_length, ints_length, nn_length, nn_length, HLL.out, zerN_len])) Try.underlying23 rfl (by rw [size_b16, ints_length, nn_length, HLL.out])) rfl ⟨rfl, below_setRow gb (by omega) _⟩
end Go.Proofs.Ytleofmeejjikmaa
namespace Go.Proofs.Ytleofmeejjikmaa
open Go.RowKit Go.Shelf
set_option linter.unusedVariables false

attribute [local go_sem] Oper.semAt_some

/-- the block number i of a pad -/
def padB (key nc : List Nat) (i : Nat) : List Nat := encL (expandL key) (nextL nc i)
theorem padB_len (key nc : List Nat) (i : Nat) : (padB key nc i).length = 16 := (encN_len _ _ _).trans (nextL_len _ _)
theorem padB_bys {key nc : List Nat} (i : Nat) : Bys (padB key nc i) := encN_bys _ (nextL_bys _ _) _
/-- what a round must keep: the nonce's block, and whatever cells were made from M on -/
def KpB (Bn M : Nat) (A B : World) : Prop := ∀ k o, (k = Bn ∨ M ≤ k) → A.heap[k]? = some o → o.isCells = true → B.heap[k]? = some o
theorem KpB.trans {Bn M : Nat} {A B C : World} (h : KpB Bn M A B) (k : KpB Bn M B C) : KpB Bn M A C := fun i o hi ho hc => k i o hi (h i o hi ho hc) hc
theorem KpB.put {Bn M : Nat} (W : World) (l : Nat) (o o' : Obj) (h : W.heap[l]? = some o) (hc : o.isCells = false) : KpB Bn M W (W.putObj l o') := fun i oi hi ho hc' => by
  by_cases e : i = l
  · subst e
    rw [h] at ho
    cases ho
    rw [hc] at hc'
    cases hc'
  · exact (World.putObj_heap_other (by omega)).trans ho

set_option maxRecDepth 100000 in
theorem s_blocks (V U : Array Value) (w : World) :
    Calls Try.prog 37 #[.agg V, .agg U] w fun e w' => e = .returned (.func (.func 51) #[] #[.pointer (some ⟨w.heap.size, 0, none⟩), .pointer (some ⟨w.heap.size + 1, 0, none⟩)]) ∧ w' = (w.alloc (.cells V 29)).alloc (.cells U 23) := by
  go_enter Try.func37, Try.ntmps37
  go_wp2
  go_ret
  exact ⟨rfl, rfl⟩

set_option maxRecDepth 100000 in
set_option maxHeartbeats 2000000 in
theorem s_blocks_in (n l Bk Bn M N : Nat) (key nc : List Nat) (hk : key.length = 32) (hkb : Bys key) (hn : nc.length = 16) (hnb : Bys nc) (hNN : N ≤ 65536) (J Jx : List Nat → World → Prop) (h2 : 2 ≤ n) (W : World) (hM : M ≤ W.heap.size)
    (hJ : AbidesFrom W.heap.size J) (hlen : ∀ pre W1, J pre W1 → pre.length < N)
    (hY : ∀ pre x W1, J pre W1 → YieldAt Fence.wide (n - 1) Try.prog l #[.agg (ints .u8 (nn (padB key nc x))).toArray] W1 fun e W' =>
      (e = .returned (.bool true) ∧ J (pre ++ [x]) W' ∧ KpB Bn M W1 W') ∨ (e = .returned (.bool false) ∧ Jx (pre ++ [x]) W'))
    (hBk : Blk W Bk 29 (ints .u8 (nn key))) (hBn : Blk W Bn 23 (ints .u8 (nn nc))) (h0 : J [] W) :
    CallsIn Fence.wide n Try.prog 51 #[.func (.yield l) #[] #[], .pointer (some ⟨Bk, 0, none⟩), .pointer (some ⟨Bn, 0, none⟩)] W fun e W' => (∃ v, e = .returned v) ∧
      ∃ pre, (∃ k, pre = List.range k) ∧ Jx pre W' := by
  have lE : (expandL key).length = 60 := expandL_len _
  have wE : Words (expandL key) := ksN_words hkb 52 (by omega)
  have hEx := fun w => c_Expand key w hk hkb
  have hNx := fun (i : Nat) w (hi : i < 2 ^ 64) => s_Next nc i w hn hnb hi
  have hEn := fun (i : Nat) w => c_Encrypt (expandL key) (nextL nc i) w lE wE (nextL_len _ _) (nextL_bys _ _)
  have hpb : ∀ i, encL (expandL key) (nextL nc i) = padB key nc i := fun _ => rfl
  have HPB := Lib.hid hpb
  have HEx := Lib.hid hEx
  have HNx := Lib.hid hNx
  have HEn := Lib.hid hEn
  have HK := Lib.hid hk
  have HN := Lib.hid hn
  have HE := Lib.hid lE
  clear hEx hNx hEn lE hk hn hpb wE
  generalize expandL key = E at *
  refine callsIn_of_wp Try.func51 rfl trivial ?_ rfl
  simp only [Try.ntmps51, List.size_toArray, List.length_cons, List.length_nil, Nat.reduceAdd, Nat.reduceSub, Array.replicate_succ, Array.replicate_zero, List.push_toArray, List.append_toArray, List.nil_append, List.cons_append]
  refine wpIn_wide.2 ?_
  go_wp2_with (refine wpList_load_blk rfl 29 _ rfl _ rfl hBk Try.underlying29 rfl (by rw [size_hash, ints_length, nn_length, HK.out]) ?_)
  refine (HEx.out _).mono ?_
  rintro e w1 ⟨rfl, hb1⟩
  go_wp2_with (first | (refine wpList_alloc_at rfl 91 rfl _ _ (alloc_k60 _) ?_) | (refine wpList_store_blk rfl 91 _ _ rfl w1.heap.size (ints .u32 (nn E)) rfl rfl (Blk.new' w1 91 (ints .u32 (nn (zerN 60))) rfl) (by rw [size_k60, ints_length, nn_length, HE.out]) (by rw [ints_length, ints_length, nn_length, nn_length, HE.out, zerN_len]) (ints_one _ _) ?_))
  have hlZ : (ints .u32 (nn E)).length = (ints .u32 (nn (zerN 60))).length := by rw [ints_length, ints_length, nn_length, nn_length, HE.out, zerN_len]
  have g4 := (Blk.new' w1 91 (ints .u32 (nn (zerN 60))) rfl).row (ints .u32 (nn E)) hlZ
  have gn := ((hBn.below hb1 hBn.lt).alloc (.cells (ints .u32 (nn (zerN 60))).toArray 91)).rowOther (show Bn ≠ w1.heap.size by have := hBn.lt; have := hb1.size; omega) (ints .u32 (nn E)).toArray
  have hbW : Below W.heap.size W ((w1.alloc (.cells (ints .u32 (nn (zerN 60))).toArray 91)).setRow w1.heap.size (ints .u32 (nn E)).toArray) := below_setRow (hb1.alloc hb1.size _) hb1.size _
  have hJ0 : J [] _ := hJ [] W _ none h0 (grown_below hbW) (fun r e => by cases e)
  have hM4 : M ≤ w1.heap.size := Nat.le_trans hM hb1.size
  have hW4 : W.heap.size ≤ w1.heap.size := hb1.size
  clear hBk hBn hb1 hbW hlZ h0 HEx
  generalize World.setRow _ _ _ = w2 at *
  generalize w1.heap.size = B4 at *
  refine (wpIn_wide (n := n)).1 ?_
  gi_loopw [5] (fun i wr => ∃ k : Nat, i = .int .u64 (k : Int) ∧ J (List.range k) wr ∧ Blk wr Bn 23 (ints .u8 (nn nc)) ∧ Blk wr B4 91 (ints .u32 (nn E))) (fun i _ => N - (intOf i).toNat)
  case atStart => exact ⟨0, rfl, hJ0, gn, g4⟩
  case round =>
    obtain ⟨k, rfl, hJk, gn', g4'⟩ := hrel
    clear gn g4 hJ0
    have hkN := hlen _ _ hJk
    rw [List.length_range] at hkN
    have hN1 : ∀ wx, NewBut wr wx → Calls Try.prog 54 #[.agg (ints .u8 (nn nc)).toArray, .int .u64 (k : Int)] wx fun e w' => e = .returned (.agg (ints .u8 (nn (nextL nc k))).toArray) ∧ NewBut wr w' := fun wx h =>
      (HNx.out k wx (by omega)).mono fun _ _ ⟨e1, e2⟩ => ⟨e1, h.trans (e2.mono h.size)⟩
    have hE1 : ∀ wx, NewBut wr wx → Calls Try.prog 53 #[.agg (ints .u32 (nn E)).toArray, .agg (ints .u8 (nn (nextL nc k))).toArray] wx fun e w' => e = .returned (.agg (ints .u8 (nn (padB key nc k))).toArray) ∧ NewBut wr w' := fun wx h =>
      (HEn.out k wx).mono fun _ _ ⟨e1, e2⟩ => ⟨by rw [← HPB.out]; exact e1, h.trans (e2.mono h.size)⟩
    have hB0 : ∀ wx, NewBut wr wx → wx.rangeAt Bn 0 (ints .u8 (nn nc)) := fun wx h => (gn'.below h gn'.lt).whole
    have hB4 : ∀ wx, NewBut wr wx → wx.rangeAt B4 0 (ints .u32 (nn E)) := fun wx h => (g4'.below h g4'.lt).whole
    have HN1 := Lib.hid hN1
    have HE1 := Lib.hid hE1
    have HB0 := Lib.hid hB0
    have HB4 := Lib.hid hB4
    clear hN1 hE1 hB0 hB4
    gi_wp2_with fail
    refine regionIn_wide_tail (C := NewBut wr) 6 mixed (by kernel_rfl) (by kernel_rfl) (show Below _ _ _ from (Below.refl _ _).drew) ?_
    simp only [List.take_succ_cons, List.take_zero, List.drop_succ_cons, List.drop_zero]
    repeat (first | (refine wpQuiet_load_row rfl 91 _ rfl B4 0 rfl (ints .u32 (nn E)) (fun wx h => HB4.out wx h) Try.underlying91 rfl (by rw [size_k60, ints_length, nn_length, HE.out]) ?_) | (refine wpQuiet_load_row rfl 23 _ rfl Bn 0 rfl (ints .u8 (nn nc)) (fun wx h => HB0.out wx h) Try.underlying23 rfl (by rw [size_b16, ints_length, nn_length, HN.out]) ?_) | (refine wpQuiet_step (fun K' hK' => ?_); go_simp; first | (refine ⟨_, fun _ _ => rfl, hK' _ ?_⟩; clear hK' K') | ((with_reducible refine ⟨_, fun wx hx => HN1.out wx hx, hK' _ ?_⟩); clear hK' K') | ((with_reducible refine ⟨_, fun wx hx => HE1.out wx hx, hK' _ ?_⟩); clear hK' K')))
    refine wpQuiet_nil ?_
    intro w5 hb5
    have hJ5 : J (List.range k) w5 := hJ _ wr _ none hJk (grown_below hb5) (fun r e => by cases e)
    have gn5 := gn'.below hb5 gn'.lt
    have g45 := g4'.below hb5 g4'.lt
    have hs5 := hb5.size
    clear hJk gn' g4' HN1 HE1 HB0 HB4 hb5
    obtain ⟨fn, tmps, assign, body, hy, hR⟩ := hY _ k w5 hJ5
    rw [← List.range_succ] at hR
    have hk1 : (k : Int) < 65536 := by omega
    have hk0 : (0 : Int) ≤ (k : Int) := by omega
    gi_wp2
    first | refine hR.mono ?_ | refine ⟨fun _ => by omega, hR.mono ?_⟩
    rintro e W3 (⟨rfl, hJ3, hk3⟩ | ⟨rfl, hJx3⟩)
    · gi_wp2
      go_roundw
      case rel => exact ⟨k + 1, by go_num, hJ3, hk3 _ _ (.inl rfl) gn5 rfl, hk3 _ _ (.inr hM4) g45 rfl⟩
      case measure => simp [intOf]; omega
    · gi_wp2
      refine bodyPost_ret (results_none rfl _ _ _) rfl ?_
      exact ⟨⟨_, rfl⟩, _, ⟨k + 1, rfl⟩, hJx3⟩
end Go.Proofs.Ytleofmeejjikmaa
namespace Go.Proofs.Ytleofmeejjikmaa
open Go.RowKit Go.Shelf
set_option linter.unusedVariables false

/-- the byte j of a pad -/
def padF (key nc : List Nat) (j : Nat) : Nat := (padB key nc (j / 16)).getD (j % 16) 0
def padL (key nc : List Nat) (n : Nat) : List Nat := (List.range n).map (padF key nc)
theorem padL_len (key nc : List Nat) (n : Nat) : (padL key nc n).length = n := by simp [padL]
theorem padF_lt (key nc : List Nat) (j : Nat) : padF key nc j < 256 := padB_bys _ _
/-- these blocks, one behind the other -/
def flatP (key nc pre : List Nat) : List Nat := pre.flatMap (padB key nc)
theorem flatP_snoc (key nc pre : List Nat) (x : Nat) : flatP key nc (pre ++ [x]) = flatP key nc pre ++ padB key nc x := by simp [flatP]
theorem flatP_len (key nc : List Nat) : ∀ pre, (flatP key nc pre).length = 16 * pre.length
  | [] => rfl
  | x :: pre => by
    have := flatP_len key nc pre
    unfold flatP at this ⊢
    rw [List.flatMap_cons, List.length_append, this, padB_len, List.length_cons]; omega
theorem flatP_getD (key nc : List Nat) : ∀ k j, j < 16 * k → (flatP key nc (List.range k)).getD j 0 = padF key nc j
  | 0, j, h => by omega
  | k + 1, j, h => by
    rw [List.range_succ, flatP_snoc, List.getD_eq_getElem?_getD, List.getElem?_append]
    have hl : (flatP key nc (List.range k)).length = 16 * k := by rw [flatP_len, List.length_range]
    rw [hl]
    by_cases e : j < 16 * k
    · rw [if_pos e, ← List.getD_eq_getElem?_getD, flatP_getD key nc k j e]
    · rw [if_neg e, ← List.getD_eq_getElem?_getD]
      unfold padF
      rw [show j / 16 = k by omega, show j % 16 = j - 16 * k by omega]
theorem flatP_take (key nc : List Nat) (k n : Nat) (h : n ≤ 16 * k) : (flatP key nc (List.range k)).take n = padL key nc n :=
  getD_ext n (by rw [List.length_take, flatP_len, List.length_range]; omega) (padL_len _ _ _) fun j hj => by
    unfold padL
    rw [map_range_getD _ _ _ hj, ← flatP_getD key nc k j (by omega)]
    simp [List.getD_eq_getElem?_getD, hj]

section
variable {P : Program} {m : Nat} {ops : Array Oper} {rest : List Oper} {o : Oper} {a : Act} {w : World} {Q : Exit → Act → World → Prop}
end
theorem KpB.alloc (Bn M : Nat) (W : World) (o : Obj) : KpB Bn M W (W.alloc o) := fun k ok _ hk _ => (Below.heap_alloc W o k (Array.getElem?_eq_some_iff.1 hk).1).trans hk
theorem KpB.of_below {Bn M : Nat} {W W' : World} (h : Below W.heap.size W W') : KpB Bn M W W' := fun k ok _ hk _ => (h.block k (Array.getElem?_eq_some_iff.1 hk).1).trans hk
theorem KpB.row {Bn M g : Nat} {W : World} (cs : Array Value) (h1 : g ≠ Bn) (h2 : g < M) : KpB Bn M W (W.setRow g cs) := fun k ok hk ho _ => by
  rw [setRow_other W g k cs (by rcases hk with hk | hk <;> omega)]; exact ho
theorem KpB.refl (Bn M : Nat) (W : World) : KpB Bn M W W := fun _ _ _ h _ => h
/-- a block that is neither the nonce's nor made from M on is written -/
theorem KpB.grown {Bn M g : Nat} {W W' : World} (h : W.grownBy W' (some g)) (h1 : g ≠ Bn) (h2 : g < M) : KpB Bn M W W' := fun k ok hk ho _ =>
  (h.block k (Array.getElem?_eq_some_iff.1 ho).1 (by intro e; cases e; rcases hk with hk | hk <;> omega)).trans ho
theorem s_till (n Bk Bn N : Nat) (key nc : List Nat) (hk : key.length = 32) (hkb : Bys key) (hn : nc.length = 16) (hnb : Bys nc) (hNN : N ≤ 65536) (h2 : 2 ≤ n) (w : World)
    (hBk : Blk w Bk 29 (ints .u8 (nn key))) (hBn : Blk w Bn 23 (ints .u8 (nn nc))) :
    SeqTill n Try.prog 51 #[.pointer (some ⟨Bk, 0, none⟩), .pointer (some ⟨Bn, 0, none⟩)] (fun x : Nat => #[.agg (ints .u8 (nn (padB key nc x))).toArray]) (KpB Bn w.heap.size) (fun pre => ∃ k, pre = List.range k) N w :=
  fun l J Jx W hW hJ hJx hlen hY h0 => s_blocks_in n l Bk Bn w.heap.size N key nc hk hkb hn hnb hNN J Jx h2 W hW.size hJ hlen hY (hBk.below hW hBk.lt) (hBn.below hW hBn.lt) h0
end Go.Proofs.Ytleofmeejjikmaa
namespace Go.Proofs.Ytleofmeejjikmaa
open Go.RowKit Go.Shelf
set_option linter.unusedVariables false

attribute [local go_sem] Oper.semAt_some

set_option maxRecDepth 100000 in
set_option maxHeartbeats 400000 in
theorem s_Pad_some (key nc : List Nat) (N : Nat) (w : World) (hk : key.length = 32) (hkb : Bys key) (hn : nc.length = 16) (hnb : Bys nc) (hN0 : 0 < N) (hN : N ≤ 65536) :
    Calls Try.prog 29 #[.agg (ints .u8 (nn key)).toArray, .agg (ints .u8 (nn nc)).toArray, .int .i64 (N : Int)] w fun e w' => e = .returned (.string (bs (nn (padL key nc N)))) ∧ Below w.heap.size w w' := by
  obtain ⟨PL, hPL⟩ : ∃ L, padL key nc N = L := ⟨_, rfl⟩
  rw [hPL]
  have HPA := Lib.hid hPL
  clear hPL
  have n1 : (0 : Int) < (N : Int) := by omega
  have n2 : (N : Int) ≤ 65536 := by omega
  have n3 : ¬ ((N : Int) ≤ 0) := by omega
  obtain ⟨i0, hi0, hz0, hz1, hz2⟩ := info_parts info_u8
  have HK := Lib.hid hk
  have HN := Lib.hid hn
  clear hk hn
  have k0 : Blk (((w.alloc (.cells (ints .u8 (nn key)).toArray 29)).alloc (.cells (ints .u8 (nn nc)).toArray 23)).alloc (.cells #[.int .i64 (N : Int)] 3)) w.heap.size 29 (ints .u8 (nn key)) := ((Blk.new _ _ _).alloc _).alloc _
  have k1 : Blk (((w.alloc (.cells (ints .u8 (nn key)).toArray 29)).alloc (.cells (ints .u8 (nn nc)).toArray 23)).alloc (.cells #[.int .i64 (N : Int)] 3)) (w.heap.size + 1) 23 (ints .u8 (nn nc)) := (Blk.new2 _ _ _ _ rfl).alloc _
  have k2 : Blk (((w.alloc (.cells (ints .u8 (nn key)).toArray 29)).alloc (.cells (ints .u8 (nn nc)).toArray 23)).alloc (.cells #[.int .i64 (N : Int)] 3)) (w.heap.size + 1 + 1) 3 [.int .i64 (N : Int)] := by
    have := Blk.new2 (w.alloc (.cells (ints .u8 (nn key)).toArray 29)) (.cells (ints .u8 (nn nc)).toArray 23) 3 (c := #[.int .i64 (N : Int)]) [.int .i64 (N : Int)] rfl
    rw [World.size_alloc] at this
    exact this
  have kb : Below w.heap.size w (((w.alloc (.cells (ints .u8 (nn key)).toArray 29)).alloc (.cells (ints .u8 (nn nc)).toArray 23)).alloc (.cells #[.int .i64 (N : Int)] 3)) := (((Below.refl _ _).alloc (Nat.le_refl _) _).alloc (by simp) _).alloc (by simp; omega) _
  refine (callsIn_wide (n := 9)).1 (callsIn_of_wp_marks Try.func29 rfl trivial ?_ rfl)
  simp only [Try.ntmps29, List.size_toArray, List.length_cons, List.length_nil, Nat.reduceAdd, Nat.reduceSub, Array.replicate_succ, Array.replicate_zero, List.push_toArray, List.append_toArray, List.nil_append, List.cons_append]
  refine wpIn_wide.2 ?_
  go_wp2
  go_step3
  have hml : N ≤ maxLen := by simp [maxLen]; omega
  have hby : i0.bytes * N ≤ 281474976710656 := by rw [hz2]; omega
  go_wp2_with (refine wpList_make_own _ rfl _ _ 53 rfl w.heap.size 5 i0 (.int .u8 0) 1 rfl hi0 hz0 hz1 .i64 .i64 (N : Int) N rfl rfl rfl hby hml kb.size ?_; intro w4 hown4 hg4)
  have e4 : (((w.alloc (.cells (ints .u8 (nn key)).toArray 29)).alloc (.cells (ints .u8 (nn nc)).toArray 23)).alloc (.cells #[.int .i64 (N : Int)] 3)).heap.size = w.heap.size + 1 + 1 + 1 := by simp
  rw [e4] at hown4
  have b4 := Below.grown (Below.refl _ _) hg4 (Nat.le_refl _) (fun k hk => by cases hk)
  have z4 := b4.size
  have z5 : w.heap.size + 1 + 1 + 1 < w4.heap.size := (OwnB.lt (l := []) hown4 _ rfl).2
  rw [e4] at z4
  have p0 := k0.below b4 k0.lt
  have p1 := k1.below b4 k1.lt
  have p2 := k2.below b4 k2.lt
  have pb := kb.trans (b4.mono kb.size)
  clear k0 k1 k2 kb hg4 b4
  have q0 := p0.alloc (.cells #[.slice (some ⟨w.heap.size + 1 + 1 + 1, 0, none⟩) 0 N] 53)
  have q1 := p1.alloc (.cells #[.slice (some ⟨w.heap.size + 1 + 1 + 1, 0, none⟩) 0 N] 53)
  have q2 := p2.alloc (.cells #[.slice (some ⟨w.heap.size + 1 + 1 + 1, 0, none⟩) 0 N] 53)
  have q7 : Blk (w4.alloc (.cells #[.slice (some ⟨w.heap.size + 1 + 1 + 1, 0, none⟩) 0 N] 53)) w4.heap.size 53 [.slice (some ⟨w.heap.size + 1 + 1 + 1, 0, none⟩) 0 N] := Blk.new' _ _ _ rfl
  have qo : OwnB (w4.alloc (.cells #[.slice (some ⟨w.heap.size + 1 + 1 + 1, 0, none⟩) 0 N] 53)) w.heap.size 5 (.slice (some ⟨w.heap.size + 1 + 1 + 1, 0, none⟩) 0 N) (nn (flatP key nc [])) := OwnB.alloc (l := []) hown4 _
  have qb := pb.alloc pb.size (.cells #[.slice (some ⟨w.heap.size + 1 + 1 + 1, 0, none⟩) 0 N] 53)
  clear p0 p1 p2 pb hown4 e4
  go_step3
  go_wp2_with (first | (refine wpList_load_blk rfl 29 _ rfl _ rfl q0 Try.underlying29 rfl (by rw [size_hash, ints_length, nn_length, HK.out]) ?_) | (refine wpList_load_blk rfl 23 _ rfl _ rfl q1 Try.underlying23 rfl (by rw [size_b16, ints_length, nn_length, HN.out]) ?_))
  refine (s_blocks _ _ _).mono ?_
  rintro e w9 ⟨rfl, rfl⟩
  go_wp2
  have r0 : Blk (((w4.alloc (.cells #[.slice (some ⟨w.heap.size + 1 + 1 + 1, 0, none⟩) 0 N] 53)).alloc (.cells (ints .u8 (nn key)).toArray 29)).alloc (.cells (ints .u8 (nn nc)).toArray 23)) (w4.heap.size + 1) 29 (ints .u8 (nn key)) := (Blk.new2 _ _ _ _ rfl).alloc _
  have r1 : Blk (((w4.alloc (.cells #[.slice (some ⟨w.heap.size + 1 + 1 + 1, 0, none⟩) 0 N] 53)).alloc (.cells (ints .u8 (nn key)).toArray 29)).alloc (.cells (ints .u8 (nn nc)).toArray 23)) (w4.heap.size + 1 + 1) 23 (ints .u8 (nn nc)) := by
    have := Blk.new2 (w4.alloc (.cells #[.slice (some ⟨w.heap.size + 1 + 1 + 1, 0, none⟩) 0 N] 53)) (.cells (ints .u8 (nn key)).toArray 29) 23 (ints .u8 (nn nc)) rfl
    rw [World.size_alloc] at this
    exact this
  have r2 := (q2.alloc (.cells (ints .u8 (nn key)).toArray 29)).alloc (.cells (ints .u8 (nn nc)).toArray 23)
  have r7 := (q7.alloc (.cells (ints .u8 (nn key)).toArray 29)).alloc (.cells (ints .u8 (nn nc)).toArray 23)
  have ro := (qo.alloc (.cells (ints .u8 (nn key)).toArray 29)).alloc (.cells (ints .u8 (nn nc)).toArray 23)
  have rb := (qb.alloc qb.size (.cells (ints .u8 (nn key)).toArray 29)).alloc (by have := qb.size; simp at this ⊢; omega) (.cells (ints .u8 (nn nc)).toArray 23)
  have rz : (((w4.alloc (.cells #[.slice (some ⟨w.heap.size + 1 + 1 + 1, 0, none⟩) 0 N] 53)).alloc (.cells (ints .u8 (nn key)).toArray 29)).alloc (.cells (ints .u8 (nn nc)).toArray 23)).heap.size = w4.heap.size + 3 := by simp
  clear q0 q1 q2 q7 qo qb
  generalize World.alloc (World.alloc (World.alloc w4 _) _) _ = w6 at *
  generalize w4.heap.size = B7 at *
  refine (wpIn_wide (n := 9)).1 ?_
  have r00 : 16 * ([] : List Nat).length < N := by simpa using hN0
  refine wpIn_rangeFunc_till (n := 9) (by omega) (gf := 51) (lb := #[.pointer (some ⟨B7 + 1, 0, none⟩), .pointer (some ⟨B7 + 1 + 1, 0, none⟩)]) rfl (enters_of Try.func51 (by kernel_rfl) rfl)
    (s_till 8 (B7 + 1) (B7 + 1 + 1) N key nc HK.out hkb HN.out hnb hN (by omega) w6 r0 r1) (fun h k => h.trans k) (fun W l o o' _ h hc _ => KpB.put W l o o' h hc) (Below.refl _ _) (fun _ => rfl) 0
    (fun pre W => (Blk W B7 53 [.slice (some ⟨w.heap.size + 1 + 1 + 1, 0, none⟩) (16 * pre.length) N] ∧ OwnB W w.heap.size 5 (.slice (some ⟨w.heap.size + 1 + 1 + 1, 0, none⟩) (16 * pre.length) N) (nn (flatP key nc pre)) ∧ Blk W (w.heap.size + 1 + 1) 3 [.int .i64 (N : Int)] ∧ 16 * pre.length < N ∧ w6.heap.size ≤ W.heap.size) ∧ Below w.heap.size w W)
    (fun pre W => (Blk W B7 53 [.slice (some ⟨w.heap.size + 1 + 1 + 1, 0, none⟩) N N] ∧ OwnB W w.heap.size 5 (.slice (some ⟨w.heap.size + 1 + 1 + 1, 0, none⟩) N N) (nn ((flatP key nc pre).take N)) ∧ N ≤ 16 * pre.length) ∧ Below w.heap.size w W)
    ?hI ?hIx ?h0 ?hN
    (fun x a' W => ∃ Bx, w6.heap.size ≤ Bx ∧ Blk W Bx 23 (ints .u8 (nn (padB key nc x))) ∧ a' = { tmps := ((Value.agg (ints .u8 (nn key)).toArray) :: (Value.agg (ints .u8 (nn nc)).toArray) :: (Value.int .i64 (N : Int)) :: (Value.pointer (some ⟨w.heap.size, 0, none⟩)) :: (Value.pointer (some ⟨w.heap.size + 1, 0, none⟩)) :: (Value.pointer (some ⟨w.heap.size + 1 + 1, 0, none⟩)) :: (Value.string ⟨#[]⟩) :: (Value.pointer (some ⟨B7, 0, none⟩)) :: (Value.pointer (some ⟨Bx, 0, none⟩)) :: undef :: undef :: (Value.int .i64 (N : Int)) :: (Value.bool false) :: (Value.int .i64 (N : Int)) :: (Value.int .i64 (N : Int)) :: (Value.int .i64 (N : Int)) :: (Value.slice (some ⟨w.heap.size + 1 + 1 + 1, 0, none⟩) 0 N) :: (Value.agg (ints .u8 (nn key)).toArray) :: (Value.agg (ints .u8 (nn nc)).toArray) :: (Value.func (.func 51) #[] #[.pointer (some ⟨B7 + 1, 0, none⟩), .pointer (some ⟨B7 + 1 + 1, 0, none⟩)]) :: (Value.agg (ints .u8 (nn (padB key nc x))).toArray) :: undef :: undef :: undef :: undef :: undef :: undef :: undef :: undef :: undef :: undef :: undef :: undef :: undef :: undef :: undef :: []).toArray, defers := [] })
    ?hAx ?assign ?body ?stop
  case hI =>
    refine OwnFrom.and ?_ (ownFrom_below (Nat.le_refl _) (by omega))
    rintro s A B row ⟨h7, ho, h2, hlt, hMs⟩ hg hr
    exact ⟨h7.kept hg (fun r e => (hr r e).2), ho.kept hg (fun r e => (hr r e).2), h2.kept hg (fun r e => (hr r e).2), hlt, Nat.le_trans hMs hg.size⟩
  case hIx =>
    refine OwnFrom.and ?_ (ownFrom_below (Nat.le_refl _) (by omega))
    rintro s A B row ⟨h7, ho, hle⟩ hg hr
    exact ⟨h7.kept hg (fun r e => (hr r e).2), ho.kept hg (fun r e => (hr r e).2), hle⟩
  case h0 => exact ⟨⟨r7, ro, r2, r00, Nat.le_refl _⟩, rb⟩
  case hN =>
    rintro pre W ⟨⟨_, _, _, hlt, _⟩, _⟩
    omega
  case hAx =>
    rintro x a' s W W' row ⟨Bx, q1, q2, q3⟩ hg hr
    exact ⟨Bx, q1, q2.kept hg (fun r e => (hr r e).2), q3⟩
  case assign =>
    rintro l pre x W K ⟨⟨h7, ho, h2, hlt, hMs⟩, hb⟩ hK
    have HKK := Lib.hid hK
    have hpl := padB_len key nc x
    have HPL := Lib.hid hpl
    have hz := Blk.new' W 23 (ints .u8 (nn (zerN 16))) rfl
    clear hK hpl
    rw [fold_one]
    simp only [List.setIfInBounds_toArray, List.set_cons_succ, List.set_cons_zero]
    gi_wp2_with (first | (refine wpListIn_alloc_atR l rfl 23 rfl _ _ (alloc_b16 _) ?_) | (refine wpListIn_store_blkR l rfl 23 _ _ rfl W.heap.size (ints .u8 (nn (padB key nc x))) rfl rfl hz (by rw [size_b16, ints_length, nn_length, HPL.out]) (by rw [ints_length, ints_length, nn_length, nn_length, HPL.out, zerN_len]) (ints_one _ _) ?_))
    have hz' := hz.row (ints .u8 (nn (padB key nc x))) (by rw [ints_length, ints_length, nn_length, nn_length, HPL.out, zerN_len])
    have hbn : Below W.heap.size W ((W.alloc (.cells (ints .u8 (nn (zerN 16))).toArray 23)).setRow W.heap.size (ints .u8 (nn (padB key nc x))).toArray) := below_setRow ((Below.refl _ _).alloc (Nat.le_refl _) _) (Nat.le_refl _) _
    exact HKK.out _ _ ((KeepsOthers.of_below hbn).from _) (KpB.of_below hbn) ⟨⟨h7.below hbn h7.lt, ho.keep hbn, h2.below hbn h2.lt, hlt, Nat.le_trans hMs hbn.size⟩, hb.trans (hbn.mono hb.size)⟩ ⟨W.heap.size, hMs, hz', rfl⟩
  case body =>
    rintro l pre x a' W hl ⟨⟨h7, ho, h2, hlt, hMs⟩, hb⟩ ⟨Bx, hBx, hx, rfl⟩
    have hpl := padB_len key nc x
    have hpb := padB_bys (key := key) (nc := nc) x
    have hfl := flatP_len key nc pre
    have hsn := flatP_snoc key nc pre x
    have hfn := flatP_len key nc (pre ++ [x])
    rw [List.length_append, List.length_singleton] at hfn
    have hix := fun (j : Nat) (hj : j < 16) w => run_index_ints (P := Try.prog) 23 5 16 .u8 .i64 (nn (padB key nc x)) j Try.underlying23 ⟨_, Try.underlying5, rfl⟩ size_u8 (by rw [nn_length, hpl]) hj w
    have HIX := Lib.hid hix
    have HPL := Lib.hid hpl
    have HPB := Lib.hid hpb
    have HFL := Lib.hid hfl
    have HSN := Lib.hid hsn
    have HFN := Lib.hid hfn
    have Hlt := Lib.hid hlt
    have HMs := Lib.hid hMs
    clear hpl hpb hfl hsn hfn hix hlt hMs r0 r1 r2 r7 ro rb r00
    generalize flatP key nc (pre ++ [x]) = FN at *
    generalize flatP key nc pre = FL at *
    generalize padB key nc x = X at *
    generalize hq : 16 * pre.length = q at *
    have Hq := Lib.hid hq
    clear hq
    gi_wp2_with (refine wpListIn_load_blkR l rfl 23 _ rfl _ rfl hx Try.underlying23 rfl (by rw [size_b16, ints_length, nn_length, HPL.out]) ?_)
    gi_loopw [22] (fun i wr => ∃ j : Nat, j ≤ 16 ∧ i = .int .i64 (j : Int) ∧ Blk wr B7 53 [.slice (some ⟨w.heap.size + 1 + 1 + 1, 0, none⟩) (q + j) N] ∧ OwnB wr w.heap.size 5 (.slice (some ⟨w.heap.size + 1 + 1 + 1, 0, none⟩) (q + j) N) (nn (FL ++ X.take j)) ∧ Blk wr (w.heap.size + 1 + 1) 3 [.int .i64 (N : Int)] ∧ q + j < N ∧ Below w.heap.size w wr ∧ KeepsFrom w6.heap.size W wr ∧ KpB (B7 + 1 + 1) w6.heap.size W wr) (fun i _ => 16 - (intOf i).toNat)
    case atStart => exact ⟨0, by omega, rfl, h7, by rw [List.take_zero, List.append_nil]; exact ho, h2, by rw [Nat.add_zero]; exact Hlt.out, hb, KeepsFrom.refl _ _, KpB.refl _ _ _⟩
    case round =>
      obtain ⟨j, hj, rfl, g7, go, g2, glt, gb, gk, gp⟩ := hrel
      clear h7 ho h2 hb hx
      have hll : (nn (FL ++ X.take j)).length = q + j := by rw [nn_length, List.length_append, List.length_take, HPL.out, HFL.out]; omega
      by_cases h16 : j < 16
      · have hi := HIX.out j h16
        rw [nn_getD] at hi
        have hsn1 : X.take (j + 1) = X.take j ++ [X.getD j 0] := by
          rw [List.take_add_one, List.getElem?_eq_getElem (by rw [HPL.out]; exact h16), List.getD_eq_getElem?_getD, List.getElem?_eq_getElem (by rw [HPL.out]; exact h16)]
          rfl
        have Hsn1 := Lib.hid hsn1
        have c7 := g7.cell 0
        have f7 := g7.free 0
        have c2 := g2.cell 0
        simp only [List.getElem?_cons_zero] at c7 c2
        clear hsn1
        generalize X.getD j 0 = xv at *
        have hrow : (wr.alloc (.cells #[.int .u8 (xv : Int)] 5)).ownsRow w.heap.size 5 1 (.slice (some ⟨w.heap.size + 1 + 1 + 1, 0, none⟩) (q + j) N) (q + j) (ints .u8 (nn (FL ++ X.take j))) := by
          have := go.alloc (.cells #[.int .u8 (xv : Int)] 5)
          unfold OwnB at this
          rw [hll] at this
          exact this
        have hnew : ∀ jj u, [Value.int .u8 (xv : Int)][jj]? = some u → (wr.alloc (.cells #[.int .u8 (xv : Int)] 5)).cell? ((⟨wr.heap.size, 0, none⟩ : Addr).add jj) = some u := fun jj u h => by
          rw [Addr.add_mid]
          exact (Blk.new' wr 5 [Value.int .u8 (xv : Int)] rfl).whole jj u h
        have hrN : q + j + 1 ≤ N := by omega
        have hone : ∀ u ∈ [Value.int .u8 (xv : Int)], u.oneCell' = true := by simp [Value.oneCell']
        have HRow := Lib.hid hrow
        have HNew := Lib.hid hnew
        have HRN := Lib.hid hrN
        have HOne := Lib.hid hone
        have HLL := Lib.hid hll
        have k7 := (g7.alloc (.cells #[.int .u8 (xv : Int)] 5))
        have k2 := (g2.alloc (.cells #[.int .u8 (xv : Int)] 5))
        have d16 : (j : Int) < 16 := by omega
        clear hrow hnew hrN hone hll
        by_cases he : q + j + 1 = N
        · have e1 : (q : Int) + (j : Int) + 1 = (N : Int) := by omega
          have He := Lib.hid he
          clear he
          gi_wp2_with (gi_at_builtin; refine wpListIn_append_fits _ rfl _ _ 53 rfl w.heap.size 5 i0 1 Try.underlying53 hi0 hz1 (w.heap.size + 1 + 1 + 1) (q + j) N _ rfl HRow.out ⟨wr.heap.size, 0, none⟩ 1 1 [.int .u8 (xv : Int)] rfl rfl HNew.out HOne.out HRN.out ?_; intro w5 hown5 hg5; have p7 := k7.grown hg5 (by omega); have p2 := k2.grown hg5 (by omega); have s7 := p7.set 0 (.slice (some ⟨w.heap.size + 1 + 1 + 1, 0, none⟩) (q + j + 1) N); have sc2 : ∀ V, (w5.setCell ⟨B7, 0, none⟩ V).cell? ⟨w.heap.size + 1 + 1, 0, none⟩ = some (.int .i64 (N : Int)) := fun V => ((p2.other (a := ⟨B7, 0, none⟩) (show B7 ≠ w.heap.size + 1 + 1 by omega) V).cell 0); have pc7 := p7.cell 0; have pf7 := p7.free 0; have sc7 := s7.cell 0; simp only [List.getElem?_cons_zero, List.set_cons_zero] at pc7 sc7)
          have hl2 : nn (FL ++ X.take (j + 1)) = nn (FL ++ X.take j) ++ [(xv : Int)] := by rw [Hsn1.out]; simp [nn]
          have ow : OwnB w5 w.heap.size 5 (.slice (some ⟨w.heap.size + 1 + 1 + 1, 0, none⟩) (q + j + 1) N) (nn (FL ++ X.take (j + 1))) := by
            rw [hl2]
            unfold OwnB
            rw [List.length_append, HLL.out, ints_app]
            exact hown5
          have ow2 := ow.other (b := B7) (by omega) (.slice (some ⟨w.heap.size + 1 + 1 + 1, 0, none⟩) (q + j + 1) N)
          have bel := ((gb.alloc gb.size (.cells #[.int .u8 (xv : Int)] 5)).grown hg5 (by have := gb.size; simp; omega) (fun k e => by cases e; omega)).setCell (p := ⟨B7, 0, none⟩) (show w.heap.size ≤ B7 by omega) (.slice (some ⟨w.heap.size + 1 + 1 + 1, 0, none⟩) (q + j + 1) N)
          have kf := gk.trans (((KeepsOthers.alloc wr (.cells #[.int .u8 (xv : Int)] 5)).from _).trans ((KeepsFrom.of_grownBy hg5 (fun i e => by cases e; omega)).trans ((KeepsOthers.setCell w5 ⟨B7, 0, none⟩ (.slice (some ⟨w.heap.size + 1 + 1 + 1, 0, none⟩) (q + j + 1) N)).from w6.heap.size)))
          have he := He.out
          have htk : FN.take N = FL ++ X.take (j + 1) := by
            rw [HSN.out, List.take_append, List.take_of_length_le (by rw [HFL.out]; omega), HFL.out, show N - q = j + 1 by omega]
          refine ⟨rfl, kf, ⟨⟨?_, ?_, ?_⟩, bel⟩⟩
          · have := s7
            rw [show ([Value.slice (some ⟨w.heap.size + 1 + 1 + 1, 0, none⟩) (q + j) N]).set 0 (.slice (some ⟨w.heap.size + 1 + 1 + 1, 0, none⟩) (q + j + 1) N) = [.slice (some ⟨w.heap.size + 1 + 1 + 1, 0, none⟩) (q + j + 1) N] from rfl] at this
            rw [show ([Value.slice (some ⟨w.heap.size + 1 + 1 + 1, 0, none⟩) N N]) = [.slice (some ⟨w.heap.size + 1 + 1 + 1, 0, none⟩) (q + j + 1) N] by rw [he]]
            exact this
          · rw [htk]
            rw [show (Value.slice (some ⟨w.heap.size + 1 + 1 + 1, 0, none⟩) N N) = .slice (some ⟨w.heap.size + 1 + 1 + 1, 0, none⟩) (q + j + 1) N by rw [he]]
            exact ow2
          · rw [List.length_append, List.length_singleton, Nat.mul_add, Hq.out]
            omega
        · have e1 : ¬ ((q : Int) + (j : Int) + 1 = (N : Int)) := by omega
          have He := Lib.hid he
          clear he
          gi_wp2_with (gi_at_builtin; refine wpListIn_append_fits _ rfl _ _ 53 rfl w.heap.size 5 i0 1 Try.underlying53 hi0 hz1 (w.heap.size + 1 + 1 + 1) (q + j) N _ rfl HRow.out ⟨wr.heap.size, 0, none⟩ 1 1 [.int .u8 (xv : Int)] rfl rfl HNew.out HOne.out HRN.out ?_; intro w5 hown5 hg5; have p7 := k7.grown hg5 (by omega); have p2 := k2.grown hg5 (by omega); have s7 := p7.set 0 (.slice (some ⟨w.heap.size + 1 + 1 + 1, 0, none⟩) (q + j + 1) N); have sc2 : ∀ V, (w5.setCell ⟨B7, 0, none⟩ V).cell? ⟨w.heap.size + 1 + 1, 0, none⟩ = some (.int .i64 (N : Int)) := fun V => ((p2.other (a := ⟨B7, 0, none⟩) (show B7 ≠ w.heap.size + 1 + 1 by omega) V).cell 0); have pc7 := p7.cell 0; have pf7 := p7.free 0; have sc7 := s7.cell 0; simp only [List.getElem?_cons_zero, List.set_cons_zero] at pc7 sc7)
          have hl2 : nn (FL ++ X.take (j + 1)) = nn (FL ++ X.take j) ++ [(xv : Int)] := by rw [Hsn1.out]; simp [nn]
          have ow : OwnB w5 w.heap.size 5 (.slice (some ⟨w.heap.size + 1 + 1 + 1, 0, none⟩) (q + j + 1) N) (nn (FL ++ X.take (j + 1))) := by
            rw [hl2]
            unfold OwnB
            rw [List.length_append, HLL.out, ints_app]
            exact hown5
          have ow2 := ow.other (b := B7) (by omega) (.slice (some ⟨w.heap.size + 1 + 1 + 1, 0, none⟩) (q + j + 1) N)
          have bel := ((gb.alloc gb.size (.cells #[.int .u8 (xv : Int)] 5)).grown hg5 (by have := gb.size; simp; omega) (fun k e => by cases e; omega)).setCell (p := ⟨B7, 0, none⟩) (show w.heap.size ≤ B7 by omega) (.slice (some ⟨w.heap.size + 1 + 1 + 1, 0, none⟩) (q + j + 1) N)
          have kf := gk.trans (((KeepsOthers.alloc wr (.cells #[.int .u8 (xv : Int)] 5)).from _).trans ((KeepsFrom.of_grownBy hg5 (fun i e => by cases e; omega)).trans ((KeepsOthers.setCell w5 ⟨B7, 0, none⟩ (.slice (some ⟨w.heap.size + 1 + 1 + 1, 0, none⟩) (q + j + 1) N)).from w6.heap.size)))
          have kp := gp.trans ((KpB.alloc _ _ wr (.cells #[.int .u8 (xv : Int)] 5)).trans ((KpB.grown hg5 (by omega) (by omega)).trans (KpB.grown (grownBy_setCell' w5 B7 (.slice (some ⟨w.heap.size + 1 + 1 + 1, 0, none⟩) (q + j + 1) N)) (by omega) (by omega))))
          go_roundw
          case rel => exact ⟨j + 1, by omega, by go_num, s7, ow2, (p2.other (a := ⟨B7, 0, none⟩) (show B7 ≠ w.heap.size + 1 + 1 by omega) _), by have := He.out; omega, bel, kf, kp⟩
          case measure => simp [intOf]; omega
      · obtain rfl : j = 16 := by omega
        gi_wp2
        have hX : X.take 16 = X := List.take_of_length_le (by rw [HPL.out]; omega)
        rw [hX, ← HSN.out] at go
        refine ⟨gk, gp, ⟨⟨?_, ?_, g2, ?_, Nat.le_trans HMs.out gk.size⟩, gb⟩⟩
        · rw [List.length_append, List.length_singleton, Nat.mul_add, Hq.out]; exact g7
        · rw [List.length_append, List.length_singleton, Nat.mul_add, Hq.out]; exact go
        · rw [List.length_append, List.length_singleton, Nat.mul_add, Hq.out]; exact glt
  case stop =>
    rintro D pre W hD ⟨k, rfl⟩ ⟨⟨h7, ho, hle⟩, hb⟩ hK
    refine wpIn_wide.2 ?_
    have c7 := h7.cell 0
    simp only [List.getElem?_cons_zero] at c7
    rw [flatP_take key nc k N (by rw [List.length_range] at hle; exact hle), HPA.out] at ho
    clear r0 r1 r2 r7 ro rb r00 hle h7
    go_wp2_with (refine wpList_string_own rfl 53 9 5 _ rfl w.heap.size _ _ rfl Try.underlying53 Try.underlying5 Try.underlying9 ho ?_)
    rw [Exit.noGoto_ret]
    have hz6 : w.heap.size ≤ D := by omega
    refine ⟨by simp, .inl ⟨_, _, rfl, run_takeDeferred hK, ?_⟩⟩
    exact ⟨_, results_tmp rfl _ _ _, rfl, hb.trans (belowK_b (w := w) (Nat.le_refl _) _ D _ _ hz6 hK rfl rfl)⟩

set_option maxRecDepth 100000 in
set_option maxHeartbeats 1000000 in
theorem s_Pad_none (V U : Array Value) (i : Int) (w : World) (hi : i ≤ 0) :
    Calls Try.prog 29 #[.agg V, .agg U, .int .i64 i] w fun e w' => e = .returned (.string (bs [])) ∧ Below w.heap.size w w' := by
  have kb : Below w.heap.size w (((w.alloc (.cells V 29)).alloc (.cells U 23)).alloc (.cells #[.int .i64 i] 3)) := (((Below.refl _ _).alloc (Nat.le_refl _) _).alloc (by simp) _).alloc (by simp; omega) _
  go_enter Try.func29, Try.ntmps29
  go_wp2
  go_step3
  go_wp2
  rw [Exit.noGoto_ret]
  go_ret
  exact ⟨rfl, kb⟩
end Go.Proofs.Ytleofmeejjikmaa
namespace Go.Proofs.Ytleofmeejjikmaa
open Go.RowKit Go.Shelf
set_option linter.unusedVariables false

/-- the bytes l, those of P added to the first i of them -/
def xrF (l : List Nat) (f : Nat → Nat) (i j : Nat) : Nat := if j < i then l.getD j 0 ^^^ f j else l.getD j 0
def xrP (l : List Nat) (f : Nat → Nat) (i : Nat) : List Nat := (List.range l.length).map (xrF l f i)
def xrL (l : List Nat) (f : Nat → Nat) : List Nat := xrP l f l.length
theorem xrP_len (l : List Nat) (f : Nat → Nat) (i : Nat) : (xrP l f i).length = l.length := by simp [xrP]
theorem xrP_zero (l : List Nat) (f : Nat → Nat) : xrP l f 0 = l := getD_ext l.length (xrP_len _ _ _) rfl fun j hj => by
  unfold xrP
  rw [map_range_getD _ _ _ hj]
  exact if_neg (by omega)
theorem xrP_at (l : List Nat) (f : Nat → Nat) (i : Nat) (hi : i < l.length) : (xrP l f i).getD i 0 = l.getD i 0 := by
  unfold xrP
  rw [map_range_getD _ _ _ hi]
  exact if_neg (by omega)
theorem xrP_succ (l : List Nat) (f : Nat → Nat) (i : Nat) (hi : i < l.length) : xrP l f (i + 1) = (xrP l f i).set i (l.getD i 0 ^^^ f i) := getD_ext l.length (xrP_len _ _ _) (by rw [List.length_set, xrP_len]) fun j hj => by
  rw [getD_set _ _ _ _ (by rw [xrP_len]; exact hi)]
  unfold xrP
  rw [map_range_getD _ _ _ hj, map_range_getD _ _ _ hj]
  unfold xrF
  by_cases e : i = j
  · subst e; rw [if_pos rfl, if_pos (by omega)]
  · rw [if_neg e]
    by_cases h2 : j < i
    · rw [if_pos h2, if_pos (by omega)]
    · rw [if_neg h2, if_neg (by omega)]
theorem xrL_len (l : List Nat) (f : Nat → Nat) : (xrL l f).length = l.length := xrP_len _ _ _
theorem xrL_getD (l : List Nat) (f : Nat → Nat) (j : Nat) (hj : j < l.length) : (xrL l f).getD j 0 = l.getD j 0 ^^^ f j := by
  unfold xrL xrP
  rw [map_range_getD _ _ _ hj]
  exact if_pos hj

section
variable {P : Program} {ops : Array Oper} {rest : List Oper} {o : Oper} {a : Act} {w : World} {Q : Exit → Act → World → Prop}
end

theorem s_Pad (key nc : List Nat) (N : Nat) (w : World) (hk : key.length = 32) (hkb : Bys key) (hn : nc.length = 16) (hnb : Bys nc) (hN : N ≤ 65536) :
    Calls Try.prog 29 #[.agg (ints .u8 (nn key)).toArray, .agg (ints .u8 (nn nc)).toArray, .int .i64 (N : Int)] w fun e w' => e = .returned (.string (bs (nn (padL key nc N)))) ∧ Below w.heap.size w w' := by
  by_cases h : N = 0
  · subst h
    exact s_Pad_none _ _ _ w (by decide)
  · exact s_Pad_some key nc N w hk hkb hn hnb (by omega) hN

set_option maxRecDepth 100000 in
set_option maxHeartbeats 400000 in
theorem s_Apply (key nc : List Nat) (s : ByteArray) (w : World) (hk : key.length = 32) (hkb : Bys key) (hn : nc.length = 16) (hnb : Bys nc) (hs : s.size ≤ 65536) :
    Calls Try.prog 21 #[.agg (ints .u8 (nn key)).toArray, .agg (ints .u8 (nn nc)).toArray, .string s] w fun e w' => e = .returned (.string (bs (nn (xrL (sl s) (padF key nc))))) ∧ Below w.heap.size w w' := by
  obtain ⟨R, hR⟩ : ∃ R, xrL (sl s) (padF key nc) = R := ⟨_, rfl⟩
  rw [hR]
  have HK := Lib.hid hk
  have HN := Lib.hid hn
  have hP := fun w => s_Pad key nc s.size w hk hkb hn hnb hs
  have hpl := padL_len key nc s.size
  have hpf := padF_lt key nc
  have hpg : ∀ j, j < s.size → (padL key nc s.size).getD j 0 = padF key nc j := fun j hj => by unfold padL; exact map_range_getD _ _ _ hj
  generalize padL key nc s.size = PL at hP hpl hpg
  generalize padF key nc = pf at hR hpf hpg
  have HR := Lib.hid hR
  have hpo : is (bs (nn PL)) = nn PL := is_bs _ (by
    intro x hx
    obtain ⟨j, hj, rfl⟩ := List.getElem_of_mem hx
    rw [nn_length, hpl] at hj
    have h1 := hpg j hj
    have h2 := hpf j
    simp only [nn, List.getElem_map]
    rw [List.getD_eq_getElem?_getD, List.getElem?_eq_getElem (by omega)] at h1
    simp only [Option.getD_some] at h1
    omega)
  have hps : (bs (nn PL)).size = s.size := by rw [bs_size, nn_length, hpl]
  have hsl := sl_len s
  have hsb := sl_bys s
  have HPO := Lib.hid hpo
  have HPS := Lib.hid hps
  have HP := Lib.hid hP
  have HPL := Lib.hid hpl
  have HPF := Lib.hid hpf
  have HPG := Lib.hid hpg
  have HSL := Lib.hid hsl
  have HSB := Lib.hid hsb
  clear hR hk hn hP hpl hpf hpg hsl hsb hpo hps
  have k0 : Blk ((w.alloc (.cells (ints .u8 (nn key)).toArray 29)).alloc (.cells (ints .u8 (nn nc)).toArray 23)) w.heap.size 29 (ints .u8 (nn key)) := (Blk.new _ _ _).alloc _
  have k1 : Blk ((w.alloc (.cells (ints .u8 (nn key)).toArray 29)).alloc (.cells (ints .u8 (nn nc)).toArray 23)) (w.heap.size + 1) 23 (ints .u8 (nn nc)) := Blk.new2 _ _ _ _ rfl
  have kb : Below w.heap.size w ((w.alloc (.cells (ints .u8 (nn key)).toArray 29)).alloc (.cells (ints .u8 (nn nc)).toArray 23)) := ((Below.refl _ _).alloc (Nat.le_refl _) _).alloc (by simp) _
  have hsm : s.size ≤ maxLen := by simp [maxLen]; omega
  go_enter Try.func21, Try.ntmps21
  go_wp2_with (first | (refine wpList_bytes_at rfl 9 53 5 _ rfl w.heap.size s rfl Try.underlying9 Try.underlying53 Try.underlying5 kb.size hsm ?_; intro cap w3 how hb3; have i0 := k0.below hb3 k0.lt; have i1 := k1.below hb3 k1.lt) | (refine wpList_load_blk rfl 29 _ rfl _ rfl i0 Try.underlying29 rfl (by rw [size_hash, ints_length, nn_length, HK.out]) ?_) | (refine wpList_load_blk rfl 23 _ rfl _ rfl i1 Try.underlying23 rfl (by rw [size_b16, ints_length, nn_length, HN.out]) ?_))
  refine (HP.out _).mono ?_
  rintro e w4 ⟨rfl, hb4⟩
  have jb := (kb.trans (hb3.mono kb.size))
  have jb4 := jb.trans (hb4.mono jb.size)
  have jo := how.keep hb4
  have hz3 := hb3.size
  simp only [World.size_alloc] at hz3
  have hz4 := hb4.size
  clear k0 k1 kb hb3 hb4 jb how i0 i1
  simp only [World.size_alloc] at jo
  have hpm : (bs (nn PL)).size ≤ maxLen := by rw [HPS.out]; exact hsm
  go_wp2_with (refine wpList_bytes_at rfl 9 53 5 _ rfl w.heap.size (bs (nn PL)) rfl Try.underlying9 Try.underlying53 Try.underlying5 jb4.size hpm ?_; intro cap5 w5 how5 hb5)
  rw [HPO.out, HPS.out] at how5
  rw [HPS.out]
  have qo := jo.keep hb5
  have qb := jb4.trans (hb5.mono jb4.size)
  have hne : w4.heap.size ≠ w.heap.size + 1 + 1 := by have := (jo.lt (w.heap.size + 1 + 1) rfl).2; omega
  have hb1 : w.heap.size ≤ w.heap.size + 1 + 1 := by omega
  rw [is_sl] at qo
  have hgl := HSL.out
  clear jo jb4 hz3 hz4 hb5
  generalize w4.heap.size = B5 at *
  generalize hsz : sl s = l at *
  have hx0 := xrP_zero l pf
  rw [← hx0] at qo
  have HPG' := HPG.out
  have hll := hgl
  clear hx0 hsz
  obtain ⟨n, hn⟩ : ∃ n, s.size = n := ⟨_, rfl⟩
  have Hn := Lib.hid hn
  rw [hn] at qo how5 HPG' hll ⊢
  have HG := Lib.hid HPG'
  have HLL := Lib.hid hll
  have hn6 : n ≤ 65536 := hn ▸ hs
  clear HPG' hll hgl hn hs
  go_loopw [19] (fun i wr => ∃ j : Nat, j ≤ n ∧ i = .int .i64 (j : Int) ∧ OwnM wr w.heap.size 5 (.slice (some ⟨w.heap.size + 1 + 1, 0, none⟩) n cap) (nn (xrP l pf j)) ∧ OwnM wr w.heap.size 5 (.slice (some ⟨B5, 0, none⟩) n cap5) (nn PL) ∧ Below w.heap.size w wr) (fun i _ => n - (intOf i).toNat)
  case atStart => exact ⟨0, by omega, rfl, qo, how5, qb⟩
  case round =>
    obtain ⟨j, hj, rfl, go, gp, gb⟩ := hrel
    clear qo how5 qb
    by_cases hlt : j < n
    · have d1 : (j : Int) < (n : Int) := by omega
      have d2 : (j : Int) < 65536 := by omega
      have hpl : j < (nn PL).length := by rw [nn_length, HPL.out, Hn.out]; exact hlt
      have hol : j < (nn (xrP l pf j)).length := by rw [nn_length, xrP_len, HLL.out]; exact hlt
      have c5 := gp.cell hpl
      have co := go.cell hol
      have cf := go.free hol
      rw [nn_getD, HG.out j hlt] at c5
      rw [nn_getD, xrP_at l pf j (by rw [HLL.out]; exact hlt)] at co
      have hb1' := HPF.out j
      have hb2' := HSB.out j
      have hx := xor_byte (l.getD j 0) (pf j) hb2' hb1'
      have hsu := xrP_succ l pf j (by rw [HLL.out]; exact hlt)
      have hgo := go.set hol ((l.getD j 0 ^^^ pf j : Nat) : Int)
      rw [nn_set, ← hsu] at hgo
      have hgp := gp.other (b := w.heap.size + 1 + 1) (j := j) (fun h => hne h.symm) (.int .u8 ((l.getD j 0 ^^^ pf j : Nat) : Int))
      have hgb := gb.setCell (p := ⟨w.heap.size + 1 + 1, j, none⟩) hb1 (.int .u8 ((l.getD j 0 ^^^ pf j : Nat) : Int))
      have Hgo := Lib.hid hgo
      have Hgp := Lib.hid hgp
      have Hgb := Lib.hid hgb
      clear hpl hol hsu go gp gb hgo hgp hgb
      generalize l.getD j 0 ^^^ pf j = y at *
      generalize l.getD j 0 = xv at *
      generalize pf j = pv at *
      go_wp2
      go_roundw
      case rel => exact ⟨j + 1, by omega, by go_num, Hgo.out, Hgp.out, Hgb.out⟩
      case measure => simp [intOf]; omega
    · obtain rfl : j = n := by omega
      have hE : xrP l pf j = R := by rw [← HR.out]; unfold xrL; rw [HLL.out]
      rw [hE] at go
      go_wp2_with (refine wpList_string_ownM rfl 53 9 5 _ rfl w.heap.size _ _ rfl Try.underlying53 Try.underlying5 Try.underlying9 go ?_)
      go_ret
      exact ⟨rfl, gb⟩
end Go.Proofs.Ytleofmeejjikmaa
namespace Go.Proofs.Ytleofmeejjikmaa
open Go.RowKit
set_option linter.unusedVariables false

theorem zerN_bys (n : Nat) : Bys (zerN n) := by
  intro j
  unfold zerN
  rw [List.getD_eq_getElem?_getD, List.getElem?_replicate]
  split <;> decide
theorem cells_b16 : Try.prog.cellsOf 23 = 16 := by kernel_rfl
theorem cells_h32 : Try.prog.cellsOf 29 = 32 := by kernel_rfl
/-- exclusive or twice -/
theorem xrL_twice (l : List Nat) (f : Nat → Nat) : xrL (xrL l f) f = l := getD_ext l.length ((xrL_len _ _).trans (xrL_len _ _)) rfl fun j hj => by
  rw [xrL_getD _ _ _ (by rw [xrL_len]; exact hj), xrL_getD _ _ _ hj, Nat.xor_assoc, Nat.xor_self, Nat.xor_zero]
theorem xrL_bys {l : List Nat} {f : Nat → Nat} (hl : Bys l) (hf : ∀ j, f j < 256) : Bys (xrL l f) := by
  intro j
  by_cases h : j < l.length
  · rw [xrL_getD _ _ _ h]; exact xor_lt (hl j) (hf j)
  · rw [List.getD_eq_getElem?_getD, List.getElem?_eq_none (by rw [xrL_len]; omega)]; decide
theorem sl_bs {l : List Nat} (h : Bys l) : sl (bs (nn l)) = l := nn_inj (by rw [← is_sl, is_bs _ (oct_nn h)])
theorem bs_sl (s : ByteArray) : bs (nn (sl s)) = s := by rw [← is_sl, bs_is]
section
variable {P : Program} {ops : Array Oper} {rest : List Oper} {o : Oper} {a : Act} {w : World} {Q : Exit → Act → World → Prop}
/-- the whole of a block is read, under whatever guard that holds -/
theorem wpList_load_blkG (hgd : Region.wanted o (yielded ops a.tmps) = true) (ty : TypeId) (x : Operand) (ho : o.op = .load ty x)
    (g : Nat) (hx : a.eval x = .pointer (some ⟨g, 0, none⟩)) {t : TypeId} {cs : List Value} {d : TypeDesc} (hg : Blk w g t cs)
    (hu : P.underlying ty = some d) (hd : (match d with | .struct _ | .array _ _ => true | _ => false) = true) (hi : (P.info? ty).map (·.size) = some cs.length)
    (h : wpList P ops Q rest (a.put o.dst (.agg cs.toArray)) w) : wpList P ops Q (o :: rest) a w := by
  unfold wpList
  rw [if_pos hgd]
  exact .inl (wp_load_row ty x ho g hx t cs.toArray (0, 0) d hg hu hd (by simpa using hi) h)
end
/-- two equal blocks are told equal -/
theorem eql_same (l : List Nat) (hl : l.length = 16) (w : World) : (binOp .eql 23 (.agg (ints .u8 (nn l)).toArray) (.agg (ints .u8 (nn l)).toArray)).run Try.prog w = .ok (.bool true) w := by
  have h := run_eql_ints (P := Try.prog) w 23 5 16 .u8 Try.underlying23 Try.underlying5 sizeOf_u8 (nn l) (nn l) (by rw [nn_length, hl]) (by rw [nn_length, hl])
  rw [show (nn l == nn l) = true by simp] at h
  exact h
end Go.Proofs.Ytleofmeejjikmaa
namespace Go.Proofs.Ytleofmeejjikmaa
open Go.RowKit
set_option linter.unusedVariables false

end Go.Proofs.Ytleofmeejjikmaa
