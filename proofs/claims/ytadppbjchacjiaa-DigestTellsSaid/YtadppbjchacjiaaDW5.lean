/- Walks of digest's hash, start, eachBlock and Sum. -/
import Derived.Test.YtadppbjchacjiaaDW2
import Derived.Test.YtadppbjchacjiaaDW3
import Derived.Test.YtadppbjchacjiaaDW4
namespace Go.Proofs.Ytadppbjchacjiaa
open Go.RowKit
set_option linter.unusedVariables false

def hashAt (v : List Int) (q : Nat) : Int := v.getD (q / 4) 0 / 2 ^ (24 - 8 * (q % 4)) % 256
def hashT (v : List Int) (m : Nat) : List Int := (List.range m).map (hashAt v) ++ zer (32 - m)
def hashL (v : List Int) : List Int := (List.range 32).map (hashAt v)
theorem hashT_len (v : List Int) (m : Nat) (h : m ≤ 32) : (hashT v m).length = 32 := by simp [hashT, zer]; omega
theorem hashT_set (v : List Int) (m : Nat) (h : m < 32) : (hashT v m).set m (hashAt v m) = hashT v (m + 1) := by
  unfold hashT zer
  rw [show 32 - m = (32 - (m + 1)) + 1 by omega, List.replicate_succ, List.set_append_right _ _ (by simp), List.range_succ]
  simp
theorem hashT_done (v : List Int) : hashT v 32 = hashL v := by simp [hashT, hashL, zer]
theorem hashL_len (v : List Int) : (hashL v).length = 32 := by simp [hashL]
theorem size_hash : (Try.prog.info? 23).map (·.size) = some 32 := by kernel_rfl

set_option maxHeartbeats 1000000 in
set_option maxRecDepth 100000 in
theorem d_hash (b : Nat) (K v : List Int) (w : World) (hK : K.length = 64) (hv : v.length = 8) (hr : Blk w b 43 (ints .u32 (K ++ v))) :
    Calls Try.prog 24 #[.pointer (some ⟨b, 0, none⟩)] w fun e w' => e = .returned (.agg (ints .u8 (hashL v)).toArray) ∧ Below w.heap.size w w' := by
  have hlt := hr.lt
  have HK := Lib.hid hK
  have HV := Lib.hid hv
  clear hK hv
  have hrg : ∀ A B, ((w.alloc A).alloc B).rangeAt b 64 (ints .u32 v) := fun A B => by
    have := Blk.range (x := ints .u32 K) (y := ints .u32 v) (z := []) (w := (w.alloc A).alloc B) (b := b) (t := 43) (by rw [← ints_app, List.append_nil]; exact (hr.alloc A).alloc B)
    rwa [ints_length, HK.out] at this
  go_enter Try.func24, Try.ntmps24
  go_wp2_with (first | (refine wpList_load_mid rfl 40 _ rfl b 64 rfl (ints .u32 v) _ (hrg _ _) Try.underlying40 rfl (by rw [size_h8, ints_length, HV.out]) ?_))
  generalize hw2 : World.alloc (World.alloc w _) _ = w2
  have hb2 : Below w.heap.size w w2 := by rw [← hw2]; exact ((Below.refl _ _).alloc (Nat.le_refl _) _).alloc (by simp) _
  have hk0 : Blk w2 w.heap.size 23 (ints .u8 (zer 32)) := by
    rw [← hw2]; exact Blk.alloc (Blk.new' _ _ _ rfl) _
  have hk1 : Blk w2 (w.heap.size + 1) 23 (ints .u8 (hashT v 0)) := by
    rw [← hw2]
    exact Blk.new2 _ _ _ _ rfl
  clear hw2 hrg
  go_loopw [4, 5, 11] (fun _ _ i wr => ∃ k : Nat, k ≤ 8 ∧ i = .int .i64 k ∧ Blk wr w.heap.size 23 (ints .u8 (zer 32)) ∧ Blk wr (w.heap.size + 1) 23 (ints .u8 (hashT v (4 * k))) ∧ Below w.heap.size w wr) (fun _ _ i _ => 8 - (intOf i).toNat)
  case atStart => exact ⟨0, by omega, rfl, hk0, hk1, hb2⟩
  case round =>
    obtain ⟨k, hk, rfl, hz, hf, hb⟩ := hrel
    clear hk0 hk1 hb2
    by_cases hl8 : k < 8
    · have hix := fun w => run_index_ints (P := Try.prog) 40 31 8 .u32 .i64 v k Try.underlying40 ⟨_, Try.underlying31, rfl⟩ size_u32 HV.out hl8 w
      have hk8 : (k : Int) < 8 := by omega
      go_wp2
      obtain ⟨wo, rfl⟩ : ∃ wo : World, wo = wr := ⟨_, rfl⟩
      go_loopw [6, 15] (fun _ i wq => ∃ j : Nat, j ≤ 4 ∧ i = .int .i64 j ∧ Blk wq w.heap.size 23 (ints .u8 (zer 32)) ∧ Blk wq (w.heap.size + 1) 23 (ints .u8 (hashT v (4 * k + j))) ∧ Below w.heap.size w wq) (fun _ i _ => 4 - (intOf i).toNat)
      case atStart => exact ⟨0, by omega, rfl, hz, hf, hb⟩
      case round =>
        obtain ⟨j, hj, rfl, hz', hf', hb'⟩ := hrel
        clear hz hf hb hix
        by_cases hlj : j < 4
        · have hset := hashT_set v (4 * k + j) (by omega)
          have hat : hashAt v (4 * k + j) = v.getD k 0 / 2 ^ (24 - 8 * j) % 256 := by
            unfold hashAt
            rw [show (4 * k + j) / 4 = k by omega, show (4 * k + j) % 4 = j by omega]
          rw [hat] at hset
          have Hs := Lib.hid hset
          clear hset hat
          have hlen := hashT_len v (4 * k + j) (by omega)
          have hc := hf'.int (j := 4 * k + j) (by omega)
          have hfr := hf'.free (4 * k + j)
          clear hlen
          have i1 : (0 : Int) ≤ 4 * (k : Int) + (j : Int) := by omega
          have i2 : (4 * (k : Int) + (j : Int)).toNat = 4 * k + j := by omega
          have i3 : 4 * (k : Int) + (j : Int) < 32 := by omega
          have i4 : (0 : Int) ≤ 24 - 8 * (j : Int) := by omega
          have i5 : (24 - 8 * (j : Int)).toNat = 24 - 8 * j := by omega
          have i6 : 8 * (j : Int) ≤ 24 := by omega
          go_wp2
          go_roundw
          case rel =>
            refine ⟨j + 1, by omega, by go_num, hz'.other (by simp) _, ?_, hb'.setCell (by simp) _⟩
            rw [show 4 * k + (j + 1) = 4 * k + j + 1 by omega, ← Hs.out]
            have := hf'.setInt (4 * k + j) (v.getD k 0 / 2 ^ (24 - 8 * j) % 256)
            simp only [List.getD_eq_getElem?_getD] at this ⊢
            exact this
          case measure => simp [intOf]; omega
        · obtain rfl : j = 4 := by omega
          go_wp2
          go_roundw
          case rel => exact ⟨k + 1, by omega, by go_num, hz', by rw [show 4 * (k + 1) = 4 * k + 4 by omega]; exact hf', hb'⟩
          case measure => simp [intOf]; omega
    · obtain rfl : k = 8 := by omega
      have hS : Blk wr (w.heap.size + 1) 23 (ints .u8 (hashL v)) := by rw [← hashT_done]; exact hf
      clear hf
      go_wp2_with (first | (refine wpList_load_blk rfl 23 _ rfl _ rfl hS Try.underlying23 rfl (by rw [size_hash, ints_length, hashL_len]) ?_) | (refine wpList_store_blk rfl 23 _ _ rfl _ _ rfl rfl hz (by rw [size_hash, ints_length, hashL_len]) (by rw [ints_length, ints_length, hashL_len]; rfl) (ints_one _ _) ?_))
      refine bodyPost_ret (v := .agg (ints .u8 (hashL v)).toArray) (results_cell_blk rfl _ _ _ rfl (hz.row (ints .u8 (hashL v)) (by rw [ints_length, ints_length, hashL_len]; rfl)) Try.underlying23 rfl (by rw [size_hash, ints_length, hashL_len])) rfl ⟨rfl, below_setRow hb (Nat.le_refl _) _⟩

def startL : List Int := [1779033703, 3144134277, 1013904242, 2773480762, 1359893119, 2600822924, 528734635, 1541459225]
set_option maxHeartbeats 1000000 in
set_option maxRecDepth 100000 in
theorem d_start (w : World) :
    Calls Try.prog 20 #[] w fun e w' => e = .returned (.agg (ints .u32 startL).toArray) ∧ Below w.heap.size w w' := by
  go_enter Try.func20, Try.ntmps20
  go_wp2_with (first | (refine wpList_store_blk rfl 40 _ _ rfl w.heap.size (ints .u32 startL) rfl rfl (Blk.new' w 40 (ints .u32 (zer 8)) rfl) (by rw [size_h8]; rfl) rfl (ints_one _ _) ?_))
  exact bodyPost_ret (v := .agg (ints .u32 startL).toArray) (results_cell_blk rfl _ _ _ rfl ((Blk.new' w 40 (ints .u32 (zer 8)) rfl).row (ints .u32 startL) rfl) Try.underlying40 rfl (by rw [size_h8]; rfl)) rfl ⟨rfl, below_setRow ((Below.refl _ _).alloc (Nat.le_refl _) _) (Nat.le_refl _) _⟩

/-- the numbers behind so many whole blocks of s -/
def shaBlocks (K : List Int) (v : List Int) (s : ByteArray) : Nat → List Int
  | 0 => v
  | n + 1 => shaBlocks K (shaBlock K v (s.extract 0 64)) (s.extract 64 s.size) n
theorem shaBlocks_len (K : List Int) : ∀ (n : Nat) (v : List Int) (s : ByteArray), (shaBlocks K v s n).length = v.length
  | 0, _, _ => rfl
  | n + 1, v, s => by rw [shaBlocks, shaBlocks_len K n, shaBlock_len]

def strLen : Value → Nat | .string s => s.size | _ => 0
set_option maxHeartbeats 1000000 in
set_option maxRecDepth 100000 in
theorem d_eachBlock (b : Nat) (n : Nat) (s : ByteArray) (K v : List Int) (w : World) (hK : K.length = 64) (hv : v.length = 8) (hr : Blk w b 43 (ints .u32 (K ++ v))) (hs : s.size = 64 * n) (hn : n < 1099511627776) :
    Calls Try.prog 21 #[.string s, .func (.func 22) #[.pointer (some ⟨b, 0, none⟩)] #[]] w fun e w' => e = .returned (.tuple #[]) ∧ Blk w' b 43 (ints .u32 (K ++ shaBlocks K v s n)) ∧ Below b w w' := by
  have HK := Lib.hid hK
  have HV := Lib.hid hv
  have HS := Lib.hid hs
  clear hK hv hs
  go_enter Try.func21, Try.ntmps21
  go_wp2_with fail
  have hlt := hr.lt
  go_loopw [0] (fun x wr => ∃ (m : Nat) (s' : ByteArray) (v' : List Int), m ≤ n ∧ Hid (s'.size = 64 * m) ∧ Hid (v'.length = 8) ∧ x = .string s' ∧ Blk wr b 43 (ints .u32 (K ++ v')) ∧ Below b w wr ∧ Hid (shaBlocks K v' s' m = shaBlocks K v s n)) (fun x _ => strLen x)
  case atStart => exact ⟨n, s, v, Nat.le_refl _, HS, HV, rfl, hr, Below.refl _ _, Lib.hid rfl⟩
  case round =>
    obtain ⟨m, s', v', hm, hs', hv', rfl, hr', hb', hq⟩ := hrel
    have hsz := hs'.out
    have hbb := hr'.lt
    by_cases h0 : m = 0
    · subst h0
      have h1 : s'.size < 64 := by omega
      have h2 : (s'.size : Int) < 64 := by omega
      clear hsz h1
      go_wp2_with fail
      go_end0
      refine ⟨rfl, ?_, hb'⟩
      rw [← hq.out]; exact hr'
    · obtain ⟨k, rfl⟩ : ∃ k, m = k + 1 := ⟨m - 1, by omega⟩
      have h1 : 64 ≤ s'.size := by omega
      have h2 : (64 : Int) ≤ (s'.size : Int) := by omega
      have hx : Hid ((s'.extract 0 64).size = 64) := Lib.hid (by rw [ByteArray.size_extract]; omega)
      have hy : Hid ((s'.extract 64 s'.size).size = 64 * k) := Lib.hid (by rw [ByteArray.size_extract]; omega)
      have hbig : s'.size ≤ 9223372036854775807 := by omega
      clear hsz
      go_wp2_with (go_at_call 22; refine (d_take b _ K v' _ HK.out hv'.out hr' hx.out).mono ?_; rintro e w2 ⟨rfl, hr2, hb2⟩)
      go_roundw
      case rel =>
        exact ⟨k, _, shaBlock K v' (s'.extract 0 64), by omega, hy, Lib.hid (by rw [shaBlock_len]; exact hv'.out), rfl, hr2, hb'.trans hb2, hq⟩
      case measure => simp [strLen]; omega
end Go.Proofs.Ytadppbjchacjiaa
