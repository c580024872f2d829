/- Words of four bytes, as plain numbers. -/
import Derived.Test.YtgagafefhmofjaaCipT
namespace Go.Proofs.Ytgagafefhmofjaa
set_option linter.unusedVariables false

/-- all are bytes -/
def Bys (l : List Nat) : Prop := ∀ j, l.getD j 0 < 256
/-- the number that the first k make, the highest one first -/
def wpre (l : List Nat) : Nat → Nat
  | 0 => 0
  | k + 1 => wpre l k * 256 + l.getD k 0
theorem wpre_lt {l : List Nat} (h : Bys l) : ∀ k, wpre l k < 256 ^ k
  | 0 => by simp [wpre]
  | k + 1 => by
    have h1 := wpre_lt h k
    have h2 := h k
    show wpre l k * 256 + l.getD k 0 < 256 ^ (k + 1)
    rw [Nat.pow_succ]
    omega
/-- w with what f makes of each of its bytes, the lowest k -/
def eachP (f : Nat → Nat) (w : Nat) : Nat → Nat
  | 0 => 0
  | k + 1 => eachP f w k + f (w / 2 ^ (8 * k) % 256) * 2 ^ (8 * k)
def Byf (f : Nat → Nat) : Prop := ∀ x, x < 256 → f x < 256
theorem eachP_lt {f : Nat → Nat} (hf : Byf f) (w : Nat) : ∀ k, eachP f w k < 2 ^ (8 * k)
  | 0 => by simp [eachP]
  | k + 1 => by
    have h1 := eachP_lt hf w k
    have h2 := hf (w / 2 ^ (8 * k) % 256) (Nat.mod_lt _ (by omega))
    show eachP f w k + f _ * 2 ^ (8 * k) < 2 ^ (8 * (k + 1))
    rw [show 8 * (k + 1) = 8 * k + 8 by omega, Nat.pow_add]
    generalize f (w / 2 ^ (8 * k) % 256) = y at *
    have h3 : y * 2 ^ (8 * k) ≤ 255 * 2 ^ (8 * k) := Nat.mul_le_mul_right _ (by omega)
    omega
def eachN (f : Nat → Nat) (w : Nat) : Nat := eachP f w 4
theorem eachN_lt {f : Nat → Nat} (hf : Byf f) (w : Nat) : eachN f w < 4294967296 := eachP_lt hf w 4
/-- a word turned to the left -/
def rotl32 (a k : Nat) : Nat := (a * 2 ^ k % 4294967296) ||| (a / 2 ^ (32 - k))
theorem rotl32_lt {a : Nat} (k : Nat) (h : a < 4294967296) : rotl32 a k < 4294967296 :=
  Nat.or_lt_two_pow (n := 32) (Nat.mod_lt _ (by omega)) (Nat.lt_of_le_of_lt (Nat.div_le_self _ _) h)
theorem or_add (E y i : Nat) (hE : E < 2 ^ i) : E ||| y * 2 ^ i = E + y * 2 ^ i := by
  have := Nat.two_pow_add_eq_or_of_lt hE y
  rw [Nat.or_comm, Nat.mul_comm y, ← this, Nat.add_comm]
theorem boxG_byte : Byf boxG := fun _ h => boxG_lt h
theorem mul_byte (b : Nat) : Byf (fun x => mul x b) := fun _ h => mul_lt b h
theorem getD_set (l : List Nat) (i j x : Nat) (hi : i < l.length) : (l.set i x).getD j 0 = if i = j then x else l.getD j 0 := by
  rw [List.getD_eq_getElem?_getD, List.getElem?_set]
  split
  · rename_i e; subst e; first | rfl | (rw [if_pos hi]; rfl)
  · rw [← List.getD_eq_getElem?_getD]
theorem getD_ext {a b : List Nat} (n : Nat) (la : a.length = n) (lb : b.length = n) (h : ∀ j, j < n → a.getD j 0 = b.getD j 0) : a = b := by
  apply List.ext_getElem (la.trans lb.symm)
  intro j h1 h2
  have := h j (by omega)
  simpa [h1, h2] using this
end Go.Proofs.Ytgagafefhmofjaa
