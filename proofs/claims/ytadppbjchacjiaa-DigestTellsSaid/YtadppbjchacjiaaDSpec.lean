/- SHA-256 in plain words: numbers of 32 bits as integers, in the form in which the walk writes them. -/
import Derived.Test.YtadppbjchacjiaaSeat0
namespace Go.Proofs.Ytadppbjchacjiaa
open Go.RowKit
set_option linter.unusedVariables false

def rotr (x : Int) (n : Nat) : Int := bits .or .u32 (x * 2 ^ (32 - n) % 4294967296) (x / 2 ^ n)

theorem rot_mask (n : Nat) (h1 : 1 ≤ n) (h2 : n ≤ 31) : bits .and .u64 (IntKind.u64.wrap (-(n : Int))) 31 = ((32 - n : Nat) : Int) := by
  have h : ∀ m : Fin 32, 1 ≤ m.val → bits .and .u64 (IntKind.u64.wrap (-(m.val : Int))) 31 = ((32 - m.val : Nat) : Int) := by decide
  exact h ⟨n, by omega⟩ h1

theorem bits_or_comm (a b : Int) : bits .or .u32 a b = bits .or .u32 b a := by
  simp only [bits, BitVec.or_comm]

theorem bits_lt (o : BinOp) (a b : Int) : 0 ≤ bits o .u32 a b ∧ bits o .u32 a b < 4294967296 := by
  unfold bits
  exact ⟨wrap_u32_nonneg _, by rw [IntKind.wrap_u32]; omega⟩
theorem rotr_lt (x : Int) (n : Nat) : 0 ≤ rotr x n ∧ rotr x n < 4294967296 := bits_lt _ _ _

def byteN (s : ByteArray) (j : Nat) : Int := ((s.data.toList.getD j 0).toNat : Int)
theorem byteN_at (s : ByteArray) (j : Nat) (h : j < s.size) : ((s[j]'h).toNat : Int) = byteN s j := by
  unfold byteN
  rw [List.getD_eq_getElem?_getD, List.getElem?_eq_getElem (by simpa using h)]; rfl
theorem byteN_lt (s : ByteArray) (j : Nat) : 0 ≤ byteN s j ∧ byteN s j < 256 := by
  unfold byteN
  have := (s.data.toList.getD j 0).toNat_lt
  omega
def zer (n : Nat) : List Int := List.replicate n 0
/-- the number that j bytes behind 4 i make, the highest first -/
def pre (s : ByteArray) (i : Nat) : Nat → Int
  | 0 => 0
  | j + 1 => bits .or .u32 (pre s i j * 256 % 4294967296) (byteN s (4 * i + j))
def first16 (s : ByteArray) (k : Nat) : List Int := (List.range k).map (fun i => pre s i 4) ++ zer (64 - k)
theorem first16_len (s : ByteArray) (k : Nat) (h : k ≤ 64) : (first16 s k).length = 64 := by simp [first16, zer]; omega
theorem first16_set (s : ByteArray) (k : Nat) (h : k < 64) : (first16 s k).set k (pre s k 4) = first16 s (k + 1) := by
  unfold first16 zer
  rw [show 64 - k = (64 - (k + 1)) + 1 by omega, List.replicate_succ, List.set_append_right _ _ (by simp), List.range_succ]
  simp
theorem first16_set0 (s : ByteArray) (k : Nat) (h : k < 64) : (first16 s k).set k (pre s k 0) = first16 s k := by
  unfold first16 zer
  rw [show 64 - k = (64 - (k + 1)) + 1 by omega, List.replicate_succ, List.set_append_right _ _ (by simp)]
  simp [pre]
def xor32 (a b : Int) : Int := bits .xor .u32 a b
def sg0 (x : Int) : Int := bits .xor .u32 (bits .xor .u32 (rotr x 7) (rotr x 18)) (x / 8)
def sg1 (x : Int) : Int := bits .xor .u32 (bits .xor .u32 (rotr x 17) (rotr x 19)) (x / 1024)
def nextW (l : List Int) (i : Nat) : Int := (l.getD (i - 16) 0 + l.getD (i - 7) 0 + sg0 (l.getD (i - 15) 0) + sg1 (l.getD (i - 2) 0)) % 4294967296
def schedN (l : List Int) : Nat → List Int
  | 0 => l
  | n + 1 => (schedN l n).set (16 + n) (nextW (schedN l n) (16 + n))
theorem schedN_len (l : List Int) (n : Nat) : (schedN l n).length = l.length := by
  induction n with
  | zero => rfl
  | succ n ih => simp [schedN, ih]
def sched (s : ByteArray) : List Int := schedN (first16 s 16) 48
theorem sched_len (s : ByteArray) : (sched s).length = 64 := by rw [sched, schedN_len, first16_len _ _ (by omega)]

/-- the eight numbers behind one step; m: the sum of its K and w -/
def tt (e f g h m : Int) : Int := h + bits .xor .u32 (bits .xor .u32 (rotr e 6) (rotr e 11)) (rotr e 25) + bits .xor .u32 (bits .and .u32 e f) (bits .and .u32 (bits .xor .u32 IntKind.u32.max e) g) + m
def uu (a b c : Int) : Int := bits .xor .u32 (bits .xor .u32 (rotr a 2) (rotr a 13)) (rotr a 22) + bits .xor .u32 (bits .xor .u32 (bits .and .u32 a b) (bits .and .u32 a c)) (bits .and .u32 b c)
def shaStep (v : List Int) (m : Int) : List Int :=
  match v with
  | [a, b, c, d, e, f, g, h] => [(tt e f g h m + uu a b c) % 4294967296, a, b, c, (d + tt e f g h m) % 4294967296, e, f, g]
  | _ => []
theorem shaStep_len (v : List Int) (m : Int) (h : v.length = 8) : (shaStep v m).length = 8 := by
  match v, h with
  | [a, b, c, d, e, f, g, h'], _ => rfl
def shaRounds (K W v : List Int) : Nat → List Int
  | 0 => v
  | k + 1 => shaStep (shaRounds K W v k) ((K.getD k 0 + W.getD k 0) % 4294967296)
theorem shaRounds_len (K W v : List Int) (h : v.length = 8) : ∀ k, (shaRounds K W v k).length = 8
  | 0 => h
  | k + 1 => shaStep_len _ _ (shaRounds_len K W v h k)
def addN (v x : List Int) : Nat → List Int
  | 0 => v
  | k + 1 => (addN v x k).set k (((addN v x k).getD k 0 + x.getD k 0) % 4294967296)
theorem addN_len (v x : List Int) : ∀ k, (addN v x k).length = v.length
  | 0 => rfl
  | k + 1 => by simp [addN, addN_len v x k]
/-- the eight numbers behind a block of 64 bytes -/
def shaBlock (K v : List Int) (s : ByteArray) : List Int := addN v (shaRounds K (sched s) v 64) 8
theorem shaBlock_len (K v : List Int) (s : ByteArray) : (shaBlock K v s).length = v.length := addN_len _ _ _
end Go.Proofs.Ytadppbjchacjiaa
