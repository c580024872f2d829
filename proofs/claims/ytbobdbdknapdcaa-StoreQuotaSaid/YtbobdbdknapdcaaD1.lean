/- SHA-256 in plain words: numbers of 32 bits as integers, in the form in which the walk writes them. -/
import Derived.Test.YtbobdbdknapdcaaG2
import Derived.Test.YtbobdbdknapdcaaRows
import Derived.Lib.Hide
import Derived.StillTailTactics
import Derived.WalkSpells
namespace Go.Proofs.Ytbobdbdknapdcaa
open Go.RowKit
set_option linter.unusedVariables false

def rotr (x : Int) (n : Nat) : Int := bits .or .u32 (x * 2 ^ (32 - n) % 4294967296) (x / 2 ^ n)

theorem rot_mask (n : Nat) (h1 : 1 ≤ n) (h2 : n ≤ 31) : bits .and .u64 (IntKind.u64.wrap (-(n : Int))) 31 = ((32 - n : Nat) : Int) := by
  have h : ∀ m : Fin 32, 1 ≤ m.val → bits .and .u64 (IntKind.u64.wrap (-(m.val : Int))) 31 = ((32 - m.val : Nat) : Int) := by decide
  exact h ⟨n, by omega⟩ h1

theorem bits_or_comm (a b : Int) : bits .or .u32 a b = bits .or .u32 b a := by
  simp only [bits, BitVec.or_comm]

theorem bits_lt (o : BinOp) (a b : Int) : 0 ≤ bits o .u32 a b ∧ bits o .u32 a b < 4294967296 := by
  unfold bits
  exact ⟨wrap_u32_nonneg _, by rw [IntKind.wrap_u32]; omega⟩
theorem rotr_lt (x : Int) (n : Nat) : 0 ≤ rotr x n ∧ rotr x n < 4294967296 := bits_lt _ _ _

def byteN (s : ByteArray) (j : Nat) : Int := ((s.data.toList.getD j 0).toNat : Int)
theorem byteN_at (s : ByteArray) (j : Nat) (h : j < s.size) : ((s[j]'h).toNat : Int) = byteN s j := by
  unfold byteN
  rw [List.getD_eq_getElem?_getD, List.getElem?_eq_getElem (by simpa using h)]; rfl
theorem byteN_lt (s : ByteArray) (j : Nat) : 0 ≤ byteN s j ∧ byteN s j < 256 := by
  unfold byteN
  have := (s.data.toList.getD j 0).toNat_lt
  omega
def zer (n : Nat) : List Int := List.replicate n 0
/-- the number that j bytes behind 4 i make, the highest first -/
def pre (s : ByteArray) (i : Nat) : Nat → Int
  | 0 => 0
  | j + 1 => bits .or .u32 (pre s i j * 256 % 4294967296) (byteN s (4 * i + j))
def first16 (s : ByteArray) (k : Nat) : List Int := (List.range k).map (fun i => pre s i 4) ++ zer (64 - k)
theorem first16_len (s : ByteArray) (k : Nat) (h : k ≤ 64) : (first16 s k).length = 64 := by simp [first16, zer]; omega
theorem first16_set (s : ByteArray) (k : Nat) (h : k < 64) : (first16 s k).set k (pre s k 4) = first16 s (k + 1) := by
  unfold first16 zer
  rw [show 64 - k = (64 - (k + 1)) + 1 by omega, List.replicate_succ, List.set_append_right _ _ (by simp), List.range_succ]
  simp
theorem first16_set0 (s : ByteArray) (k : Nat) (h : k < 64) : (first16 s k).set k (pre s k 0) = first16 s k := by
  unfold first16 zer
  rw [show 64 - k = (64 - (k + 1)) + 1 by omega, List.replicate_succ, List.set_append_right _ _ (by simp)]
  simp [pre]
def xor32 (a b : Int) : Int := bits .xor .u32 a b
def sg0 (x : Int) : Int := bits .xor .u32 (bits .xor .u32 (rotr x 7) (rotr x 18)) (x / 8)
def sg1 (x : Int) : Int := bits .xor .u32 (bits .xor .u32 (rotr x 17) (rotr x 19)) (x / 1024)
def nextW (l : List Int) (i : Nat) : Int := (l.getD (i - 16) 0 + l.getD (i - 7) 0 + sg0 (l.getD (i - 15) 0) + sg1 (l.getD (i - 2) 0)) % 4294967296
def schedN (l : List Int) : Nat → List Int
  | 0 => l
  | n + 1 => (schedN l n).set (16 + n) (nextW (schedN l n) (16 + n))
theorem schedN_len (l : List Int) (n : Nat) : (schedN l n).length = l.length := by
  induction n with
  | zero => rfl
  | succ n ih => simp [schedN, ih]
def sched (s : ByteArray) : List Int := schedN (first16 s 16) 48
theorem sched_len (s : ByteArray) : (sched s).length = 64 := by rw [sched, schedN_len, first16_len _ _ (by omega)]

/-- the eight numbers behind one step; m: the sum of its K and w -/
def tt (e f g h m : Int) : Int := h + bits .xor .u32 (bits .xor .u32 (rotr e 6) (rotr e 11)) (rotr e 25) + bits .xor .u32 (bits .and .u32 e f) (bits .and .u32 (bits .xor .u32 IntKind.u32.max e) g) + m
def uu (a b c : Int) : Int := bits .xor .u32 (bits .xor .u32 (rotr a 2) (rotr a 13)) (rotr a 22) + bits .xor .u32 (bits .xor .u32 (bits .and .u32 a b) (bits .and .u32 a c)) (bits .and .u32 b c)
def shaStep (v : List Int) (m : Int) : List Int :=
  match v with
  | [a, b, c, d, e, f, g, h] => [(tt e f g h m + uu a b c) % 4294967296, a, b, c, (d + tt e f g h m) % 4294967296, e, f, g]
  | _ => []
theorem shaStep_len (v : List Int) (m : Int) (h : v.length = 8) : (shaStep v m).length = 8 := by
  match v, h with
  | [a, b, c, d, e, f, g, h'], _ => rfl
def shaRounds (K W v : List Int) : Nat → List Int
  | 0 => v
  | k + 1 => shaStep (shaRounds K W v k) ((K.getD k 0 + W.getD k 0) % 4294967296)
theorem shaRounds_len (K W v : List Int) (h : v.length = 8) : ∀ k, (shaRounds K W v k).length = 8
  | 0 => h
  | k + 1 => shaStep_len _ _ (shaRounds_len K W v h k)
def addN (v x : List Int) : Nat → List Int
  | 0 => v
  | k + 1 => (addN v x k).set k (((addN v x k).getD k 0 + x.getD k 0) % 4294967296)
theorem addN_len (v x : List Int) : ∀ k, (addN v x k).length = v.length
  | 0 => rfl
  | k + 1 => by simp [addN, addN_len v x k]
/-- the eight numbers behind a block of 64 bytes -/
def shaBlock (K v : List Int) (s : ByteArray) : List Int := addN v (shaRounds K (sched s) v 64) 8
theorem shaBlock_len (K v : List Int) (s : ByteArray) : (shaBlock K v s).length = v.length := addN_len _ _ _
end Go.Proofs.Ytbobdbdknapdcaa
namespace Go.Proofs.Ytbobdbdknapdcaa
open Go.RowKit
set_option linter.unusedVariables false

set_option maxHeartbeats 400000 in
theorem rotl (x : Int) (n : Nat) (w : World) (h1 : 1 ≤ n) (h2 : n ≤ 31) :
    Calls Try.prog 86 #[.int .u32 x, .int .i64 (-(n : Int))] w fun e w' => e = .returned (.int .u32 (rotr x n)) ∧ w = w' := by
  have hk := rot_mask n h1 h2
  go_enter Try.func86, Try.ntmps86
  go_wp2
  go_ret
  refine ⟨?_, rfl⟩
  rw [show 32 - (32 - n) = n by omega]; rfl
set_option maxHeartbeats 400000 in
theorem d_rot (x k : Int) (w : World) (h1 : 1 ≤ k) (h2 : k ≤ 31) :
    Calls Try.prog 70 #[.int .u32 x, .int .i64 k] w fun e w' => e = .returned (.int .u32 (rotr x k.toNat)) ∧ w = w' := by
  obtain ⟨n, rfl⟩ := Int.eq_ofNat_of_zero_le (show 0 ≤ k by omega)
  rw [Int.toNat_natCast]
  go_enter Try.func70, Try.ntmps70
  go_wp2_with (go_at_call 86; refine (rotl _ _ _ (by omega) (by omega)).mono ?_; rintro e w' ⟨rfl, rfl⟩)
  go_ret
  exact ⟨rfl, rfl⟩
theorem d_rot_s (x k : Int) (w : World) (h1 : 1 ≤ k) (h2 : k ≤ 31) :
    Calls Try.prog 70 #[.int .u32 x, .int .i64 k] w fun e w' => e = .returned (.int .u32 (rotr x k.toNat)) ∧ w' = w :=
  (d_rot x k w h1 h2).mono fun _ _ ⟨a, b⟩ => ⟨a, b.symm⟩
set_option maxHeartbeats 400000 in
theorem r_rot (x k : Int) (w : World) (h1 : 1 ≤ k) (h2 : k ≤ 31) :
    Calls Try.prog 45 #[.int .u32 x, .int .i64 k] w fun e w' => e = .returned (.int .u32 (rotr x k.toNat)) ∧ ∃ n, w' = w.drewN n := by
  obtain ⟨n, rfl⟩ := Int.eq_ofNat_of_zero_le (show 0 ≤ k by omega)
  rw [Int.toNat_natCast]
  go_enter Try.func45, Try.ntmps45
  go_wp2
  go_quiet (fail)
  go_wp2
  go_ret
  refine ⟨?_, _, rfl⟩
  show Ending.returned (Value.int IntKind.u32 (bits BinOp.or IntKind.u32 (x / 2 ^ n) (x * 2 ^ (32 - n) % 4294967296))) = _
  rw [bits_or_comm]; rfl
theorem size_k64 : (Try.prog.info? 81).map (·.size) = some 64 := by kernel_rfl
set_option maxHeartbeats 1000000 in
set_option maxRecDepth 100000 in
theorem d_sched (s : ByteArray) (w : World) (hs : s.size = 64) :
    Calls Try.prog 53 #[.string s] w fun e w' => e = .returned (.agg (ints .u32 (sched s)).toArray) ∧ Below w.heap.size w w' := by
  have hsz : 64 ≤ s.size := by omega
  clear hs
  go_enter Try.func53, Try.ntmps53
  go_wp2
  generalize hw2 : World.alloc (World.alloc w _) _ = w2
  have hb2 : Below w.heap.size w w2 := by rw [← hw2]; exact ((Below.refl _ _).alloc (Nat.le_refl _) _).alloc (by simp) _
  have hk0 : Blk w2 w.heap.size 81 (ints .u32 (zer 64)) := by
    rw [← hw2]; exact Blk.alloc (Blk.new' _ _ _ rfl) _
  have hk1 : Blk w2 (w.heap.size + 1) 81 (ints .u32 (zer 64)) := by
    rw [← hw2]
    exact Blk.new2 _ _ _ _ rfl
  clear hw2
  go_loopw [9] (fun i wr => ∃ k : Nat, k ≤ 16 ∧ i = .int .i64 k ∧ Blk wr w.heap.size 81 (ints .u32 (zer 64)) ∧ Blk wr (w.heap.size + 1) 81 (ints .u32 (first16 s k)) ∧ Below w.heap.size w wr) (fun i _ => 16 - (intOf i).toNat)
  case atStart => exact ⟨0, by omega, rfl, hk0, hk1, hb2⟩
  case round =>
    obtain ⟨k, hk, rfl, hz, hf, hb⟩ := hrel
    clear hk0 hk1 hb2
    by_cases hlt : k < 16
    · go_wp2
      obtain ⟨wo, rfl⟩ : ∃ wo : World, wo = wr := ⟨_, rfl⟩
      go_loopw [12] (fun i wq => ∃ j : Nat, j ≤ 4 ∧ i = .int .i64 j ∧ Blk wq w.heap.size 81 (ints .u32 (zer 64)) ∧ Blk wq (w.heap.size + 1) 81 (ints .u32 ((first16 s k).set k (pre s k j))) ∧ Below w.heap.size w wq) (fun i _ => 4 - (intOf i).toNat)
      case atStart => exact ⟨0, by omega, rfl, hz, by rw [first16_set0 _ _ (by omega)]; exact hf, hb⟩
      case round =>
        obtain ⟨j, hj, rfl, hz', hf', hb'⟩ := hrel
        clear hz hf hb
        by_cases hlj : j < 4
        · have hc := hf'.int (j := k) (by simp [first16_len _ _ (show k ≤ 64 by omega)]; omega)
          have hg : ((first16 s k).set k (pre s k j)).getD k 0 = pre s k j := by
            simp [first16_len _ _ (show k ≤ 64 by omega), show k < 64 by omega]
          rw [hg] at hc
          clear hg
          have hfr := hf'.free k
          have h4 : (4 : Int) * (k : Int) + (j : Int) < (s.size : Int) := by omega
          have hk64 : (k : Int) < 64 := by omega
          have e1 : IntKind.i64.wrap (4 * (k : Int)) = 4 * (k : Int) := IntWalk.i64_in _ (by omega)
          have e2 : IntKind.i64.wrap (4 * (k : Int) + (j : Int)) = 4 * (k : Int) + (j : Int) := IntWalk.i64_in _ (by omega)
          have e3 : (0 : Int) ≤ 4 * (k : Int) + (j : Int) := by omega
          have e4 : (4 * (k : Int) + (j : Int)).toNat = 4 * k + j := by omega
          have e5 : 4 * k + j < s.size := by omega
          go_wp2
          go_region
          go_wp2
          go_roundw
          case rel =>
            refine ⟨j + 1, by omega, by go_num, ?_, ?_, ?_⟩
            · exact (hz'.drew).other (by simp) _
            · have := (hf'.drew).setInt k (pre s k (j + 1))
              rw [List.set_set] at this
              rw [byteN_at, Int.emod_eq_of_lt (byteN_lt s _).1 (by have := (byteN_lt s (4 * k + j)).2; omega)]
              exact this
            · exact (hb'.drew).setCell (by simp) _
          case measure => simp [intOf]; omega
        · obtain rfl : j = 4 := by omega
          rw [first16_set _ _ (by omega)] at hf'
          go_wp2
          go_roundw
          case rel => exact ⟨k + 1, by omega, by go_num, hz', hf', hb'⟩
          case measure => simp [intOf]; omega
    · obtain rfl : k = 16 := by omega
      go_wp2
      obtain ⟨wo, rfl⟩ : ∃ wo : World, wo = wr := ⟨_, rfl⟩
      go_loopw [6] (fun i wq => ∃ n : Nat, 16 ≤ n ∧ n ≤ 64 ∧ i = .int .i64 (n : Int) ∧ Blk wq w.heap.size 81 (ints .u32 (zer 64)) ∧ Blk wq (w.heap.size + 1) 81 (ints .u32 (schedN (first16 s 16) (n - 16))) ∧ Below w.heap.size w wq) (fun i _ => 64 - (intOf i).toNat)
      case atStart => exact ⟨16, by omega, by omega, rfl, hz, hf, hb⟩
      case round =>
        obtain ⟨n, hn16, hn64, rfl, hz', hf', hb'⟩ := hrel
        clear hz hf hb
        by_cases hln : n < 64
        · have hsucc : schedN (first16 s 16) (n + 1 - 16) = (schedN (first16 s 16) (n - 16)).set n (nextW (schedN (first16 s 16) (n - 16)) n) := by
            rw [show n + 1 - 16 = (n - 16) + 1 by omega]
            show (schedN _ (n - 16)).set (16 + (n - 16)) _ = _
            rw [show 16 + (n - 16) = n by omega]
          have hll : (schedN (first16 s 16) (n - 16)).length = 64 := by rw [schedN_len, first16_len _ _ (by omega)]
          have Hs := Lib.hid hsucc
          clear hsucc
          generalize schedN (first16 s 16) (n - 16) = l at *
          have c16 := hf'.int (j := n - 16) (by omega)
          have c7 := hf'.int (j := n - 7) (by omega)
          have c15 := hf'.int (j := n - 15) (by omega)
          have c2 := hf'.int (j := n - 2) (by omega)
          have c0 := hf'.int (j := n) (by omega)
          have hfr := hf'.free n
          have b1 : (0 : Int) ≤ (n : Int) - 15 ∧ (n : Int) - 15 < 64 := by omega
          have b2 : (0 : Int) ≤ (n : Int) - 2 ∧ (n : Int) - 2 < 64 := by omega
          have b3 : (0 : Int) ≤ (n : Int) - 16 ∧ (n : Int) - 16 < 64 := by omega
          have b4 : (0 : Int) ≤ (n : Int) - 7 ∧ (n : Int) - 7 < 64 := by omega
          have b5 : (n : Int) < 64 := by omega
          have x1 : ((n : Int) - 15).toNat = n - 15 := by omega
          have x2 : ((n : Int) - 2).toNat = n - 2 := by omega
          have x3 : ((n : Int) - 16).toNat = n - 16 := by omega
          have x4 : ((n : Int) - 7).toNat = n - 7 := by omega
          have Hll := Lib.hid hll
          clear hll
          go_wp2
          go_quiet (fail)
          go_wp2_with fail
          have e16 : IntKind.i64.wrap ((n : Int) - 16) = (n : Int) - 16 := IntWalk.i64_in _ (by omega)
          have e7 : IntKind.i64.wrap ((n : Int) - 7) = (n : Int) - 7 := IntWalk.i64_in _ (by omega)
          have b30 : (0 : Int) ≤ (n : Int) - 16 := b3.1
          have b31 : (n : Int) - 16 < 64 := b3.2
          have b40 : (0 : Int) ≤ (n : Int) - 7 := b4.1
          have b41 : (n : Int) - 7 < 64 := b4.2
          have b50 : (0 : Int) ≤ (n : Int) := by omega
          have b32 : (16 : Int) ≤ (n : Int) := by omega
          have b42 : (7 : Int) ≤ (n : Int) := by omega
          refine wp_region_still_tail 29 mixed (by kernel_rfl) ?_
          simp only [List.take_succ_cons, List.take_zero, List.drop_succ_cons, List.drop_zero]
          change wpStill _ _ (World.drew _) _ _ _
          repeat (first | still_step | still_call (d_rot_s _ _ _ (by omega) (by omega)))
          refine wpStill_nil ?_
          change wpList _ _ _ _ _ (World.drew _)
          clear e16 e7
          go_wp2
          go_roundw
          case rel =>
            repeat apply Exists.intro
            refine ⟨?_, rfl⟩
            refine ⟨n + 1, by omega, by omega, by go_num, ?_, ?_, ?_⟩
            · exact ((hz'.drewN nq).drew).other (by simp) _
            · rw [Hs.out]
              have := ((hf'.drewN nq).drew).setInt n (nextW l n)
              simp only [nextW, sg0, sg1, List.getD_eq_getElem?_getD] at this ⊢
              exact this
            · exact ((below_drewN hb' nq).drew).setCell (by simp) _
          case measure => simp [intOf]; omega
        · obtain rfl : n = 64 := by omega
          have hS : Blk wr (w.heap.size + 1) 81 (ints .u32 (sched s)) := hf'
          clear hf'
          go_wp2_with (first | (refine wpList_load_blk rfl 81 _ rfl _ rfl hS Try.underlying81 rfl (by rw [size_k64, ints_length, sched_len]) ?_) | (refine wpList_store_blk rfl 81 _ _ rfl _ _ rfl rfl hz' (by rw [size_k64, ints_length, sched_len]) (by simp only [ints_length, sched_len]; rfl) (ints_one _ _) ?_))
          refine bodyPost_ret (v := .agg (ints .u32 (sched s)).toArray) (results_cell_blk rfl _ _ _ rfl (hz'.row (ints .u32 (sched s)) (by simp only [ints_length, sched_len]; rfl)) Try.underlying81 rfl (by rw [size_k64, ints_length, sched_len])) rfl ⟨rfl, below_setRow hb' (Nat.le_refl _) _⟩

theorem size_h8 : (Try.prog.info? 70).map (·.size) = some 8 := by kernel_rfl
set_option maxHeartbeats 1000000 in
set_option maxRecDepth 100000 in
theorem d_step (a b c d e f g h m : Int) (w : World) :
    Calls Try.prog 54 #[.agg (ints .u32 [a, b, c, d, e, f, g, h]).toArray, .int .u32 m] w fun e' w' => e' = .returned (.agg (ints .u32 (shaStep [a, b, c, d, e, f, g, h] m)).toArray) ∧ Below w.heap.size w w' := by
  have hsg : IntKind.u32.signed = false := rfl
  simp only [ints, List.map]
  go_enter Try.func54, Try.ntmps54
  go_wp2
  go_quiet (fail)
  have hB : Blk (((w.alloc (.cells (ints .u32 [a, b, c, d, e, f, g, h]).toArray 70)).alloc (.cells (ints .u32 (zer 8)).toArray 70)).drewN nq) (w.heap.size + 1) 70 (ints .u32 (zer 8)) := (Blk.new2 _ _ _ _ rfl).drewN nq
  have hbel : Below w.heap.size w (((w.alloc (.cells (ints .u32 [a, b, c, d, e, f, g, h]).toArray 70)).alloc (.cells (ints .u32 (zer 8)).toArray 70)).drewN nq) := below_drewN (((Below.refl _ _).alloc (Nat.le_refl _) _).alloc (by simp) _) nq
  have ez : (World.alloc (World.alloc w (.cells #[.int .u32 a, .int .u32 b, .int .u32 c, .int .u32 d, .int .u32 e, .int .u32 f, .int .u32 g, .int .u32 h] 70)) (.cells #[.int .u32 0, .int .u32 0, .int .u32 0, .int .u32 0, .int .u32 0, .int .u32 0, .int .u32 0, .int .u32 0] 70)).drewN nq = (((w.alloc (.cells (ints .u32 [a, b, c, d, e, f, g, h]).toArray 70)).alloc (.cells (ints .u32 (zer 8)).toArray 70)).drewN nq) := rfl
  rw [ez]
  generalize (((w.alloc (.cells (ints .u32 [a, b, c, d, e, f, g, h]).toArray 70)).alloc (.cells (ints .u32 (zer 8)).toArray 70)).drewN nq) = w2 at *
  clear ez
  go_wp2_with (first | (go_at_call 70; refine (d_rot _ _ _ (by omega) (by omega)).mono ?_; rintro e w' ⟨rfl, rfl⟩) | (refine wpList_store_blk rfl 70 _ _ rfl _ (ints .u32 (shaStep [a, b, c, d, e, f, g, h] m)) rfl rfl hB (by rw [size_h8]; rfl) rfl (ints_one _ _) ?_))
  refine bodyPost_ret (v := .agg (ints .u32 (shaStep [a, b, c, d, e, f, g, h] m)).toArray) (results_cell_blk rfl _ _ _ rfl (hB.row (ints .u32 (shaStep [a, b, c, d, e, f, g, h] m)) rfl) Try.underlying70 rfl (by rw [size_h8]; rfl)) rfl ⟨rfl, below_setRow hbel (by omega) _⟩
theorem d_step_v (v : List Int) (m : Int) (w : World) (hv : v.length = 8) :
    Calls Try.prog 54 #[.agg (ints .u32 v).toArray, .int .u32 m] w fun e' w' => e' = .returned (.agg (ints .u32 (shaStep v m)).toArray) ∧ Below w.heap.size w w' := by
  match v, hv with
  | [a, b, c, d, e, f, g, h], _ => exact d_step a b c d e f g h m w
end Go.Proofs.Ytbobdbdknapdcaa
