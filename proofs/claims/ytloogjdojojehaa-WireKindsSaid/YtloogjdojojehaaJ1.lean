/- Bits in bytes, by plain numbers: packed, taken, and that these are one another's ways back. -/
import Derived.Test.YtloogjdojojehaaG1
import Derived.Deep.SlicePairs
import Derived.ChangeArms
import Derived.ChangeOld
import Derived.Maps.AppendAt
import Derived.Laws.OwnMore
import Derived.Maps.RangeWalk
import Derived.Test.YtloogjdojojehaaG2
import Derived.IntWalk
import Derived.Defers
import Derived.OpenShut
namespace Go.Proofs.Ytloogjdojojehaa
set_option linter.unusedVariables false

/-- the number whose lowest k bits are these -/
def accB (b : Nat → Nat) : Nat → Nat
  | 0 => 0
  | k + 1 => accB b k + b k * 2 ^ k
theorem accB_lt {b : Nat → Nat} : ∀ {k : Nat}, (∀ j, j < k → b j < 2) → accB b k < 2 ^ k
  | 0, _ => by simp [accB]
  | k + 1, h => by
    have h1 := accB_lt (b := b) (k := k) (fun j hj => h j (by omega))
    have h2 : b k * 2 ^ k ≤ 1 * 2 ^ k := Nat.mul_le_mul_right _ (by have := h k (by omega); omega)
    simp only [accB]
    rw [Nat.pow_succ]
    omega
theorem accB_or {b : Nat → Nat} {k : Nat} (h : ∀ j, j < k → b j < 2) : accB b k ||| b k * 2 ^ k = accB b (k + 1) := or_add _ _ _ (accB_lt h)
theorem accB_congr {b c : Nat → Nat} : ∀ {k : Nat}, (∀ j, j < k → b j = c j) → accB b k = accB c k
  | 0, _ => rfl
  | k + 1, h => by simp only [accB]; rw [accB_congr (fun j hj => h j (by omega)), h k (by omega)]
theorem accB_bit {b : Nat → Nat} : ∀ {k : Nat}, (∀ j, j < k → b j < 2) → ∀ {i : Nat}, i < k → accB b k / 2 ^ i % 2 = b i
  | 0, _, i, hi => by omega
  | k + 1, h, i, hi => by
    have h1 := accB_lt (b := b) (k := k) (fun j hj => h j (by omega))
    have hk := h k (by omega)
    simp only [accB]
    by_cases e : i = k
    · subst e
      rw [Nat.add_mul_div_right _ _ (Nat.two_pow_pos i), Nat.div_eq_of_lt h1, Nat.zero_add, Nat.mod_eq_of_lt hk]
    · obtain ⟨d, hd⟩ : ∃ d, k = i + (d + 1) := ⟨k - i - 1, by omega⟩
      have e2 : b k * 2 ^ k = (b k * 2 ^ d * 2) * 2 ^ i := by rw [hd, Nat.pow_add, Nat.pow_succ, Nat.mul_comm (2 ^ i), ← Nat.mul_assoc, ← Nat.mul_assoc]
      rw [e2, Nat.add_mul_div_right _ _ (Nat.two_pow_pos i), Nat.add_mul_mod_self_right]
      exact accB_bit (fun j hj => h j (by omega)) (by omega)
theorem accB_bits (n : Nat) : ∀ {k : Nat}, n < 2 ^ k → accB (fun i => n / 2 ^ i % 2) k = n := by
  have main : ∀ k, accB (fun i => n / 2 ^ i % 2) k = n % 2 ^ k := by
    intro k
    induction k with
    | zero => simp [accB, Nat.mod_one]
    | succ k ih =>
      simp only [accB]
      rw [ih, Nat.pow_succ, Nat.mod_mul, Nat.mul_comm]
  intro k hk
  rw [main k, Nat.mod_eq_of_lt hk]
theorem accB_zeros {b : Nat → Nat} {m : Nat} : ∀ {d : Nat}, (∀ j, m ≤ j → b j = 0) → accB b (m + d) = accB b m
  | 0, _ => rfl
  | d + 1, h => by
    rw [← Nat.add_assoc]
    simp only [accB]
    rw [h (m + d) (by omega), accB_zeros h]
    omega
/-- all are bits -/
def Bits01 (l : List Nat) : Prop := ∀ j, l.getD j 0 < 2
theorem Bits01.app {a b : List Nat} (ha : Bits01 a) (hb : Bits01 b) : Bits01 (a ++ b) := fun j => by
  rw [getD_app]
  split
  · exact ha j
  · exact hb _
theorem getD_over {l : List Nat} {j : Nat} (h : l.length ≤ j) : l.getD j 0 = 0 := by rw [List.getD_eq_getElem?_getD, List.getElem?_eq_none h]; rfl
/-- the bits of a piece -/
def bitsN (n w : Nat) : List Nat := (List.range w).map fun i => n / 2 ^ i % 2
theorem bitsN_len (n w : Nat) : (bitsN n w).length = w := by simp [bitsN]
theorem bitsN_getD {n w i : Nat} (h : i < w) : (bitsN n w).getD i 0 = n / 2 ^ i % 2 := map_range_getD _ _ _ h
theorem bitsN_01 (n w : Nat) : Bits01 (bitsN n w) := fun j => by
  by_cases h : j < w
  · rw [bitsN_getD h]; exact Nat.mod_lt _ (by decide)
  · rw [getD_over (by rw [bitsN_len]; omega)]; decide
theorem bitsN_succ (n w : Nat) : bitsN n (w + 1) = bitsN n w ++ [n / 2 ^ w % 2] := by simp [bitsN, List.range_succ]
/-- the bytes whose bits these are, with zeros behind -/
def bytesB (b : List Nat) : List Nat := (List.range ((b.length + 7) / 8)).map fun j => accB (fun k => b.getD (8 * j + k) 0) 8
theorem bytesB_len (b : List Nat) : (bytesB b).length = (b.length + 7) / 8 := by simp [bytesB]
theorem bytesB_bys {b : List Nat} (h : Bits01 b) : Bys (bytesB b) := fun j => by
  by_cases hj : j < (b.length + 7) / 8
  · unfold bytesB
    rw [map_range_getD _ _ _ hj]
    exact accB_lt (fun i _ => h _)
  · rw [getD_over (by rw [bytesB_len]; omega)]; decide
/-- bit i of bytes -/
def bitAt (s : List Nat) (i : Nat) : Nat := s.getD (i / 8) 0 / 2 ^ (i % 8) % 2
theorem bitAt_lt (s : List Nat) (i : Nat) : bitAt s i < 2 := Nat.mod_lt _ (by decide)
theorem bitAt_bytes {b : List Nat} (h : Bits01 b) (i : Nat) : bitAt (bytesB b) i = b.getD i 0 := by
  unfold bitAt
  by_cases hi : i / 8 < (b.length + 7) / 8
  · unfold bytesB
    rw [map_range_getD _ _ _ hi, accB_bit (fun j _ => h _) (by omega), show 8 * (i / 8) + i % 8 = i by omega]
  · rw [getD_over (by rw [bytesB_len]; omega), getD_over (by omega)]
    simp
theorem bytesB_app {a b : List Nat} (h : a.length % 8 = 0) : bytesB (a ++ b) = bytesB a ++ bytesB b := by
  have e1 : (bytesB (a ++ b)).length = a.length / 8 + (b.length + 7) / 8 := by rw [bytesB_len, List.length_append]; omega
  refine getD_ext _ e1 (by rw [List.length_append, bytesB_len, bytesB_len]; omega) fun j hj => ?_
  rw [getD_app, bytesB_len, show (a.length + 7) / 8 = a.length / 8 by omega]
  unfold bytesB
  rw [map_range_getD _ _ _ (by rw [List.length_append]; omega)]
  by_cases h1 : j < a.length / 8
  · rw [if_pos h1, map_range_getD _ _ _ (by omega)]
    exact accB_congr fun k hk => by rw [getD_app, if_pos (by omega)]
  · rw [if_neg h1, map_range_getD _ _ _ (by omega)]
    exact accB_congr fun k hk => by rw [getD_app, if_neg (by omega), show 8 * j + k - a.length = 8 * (j - a.length / 8) + k by omega]
/-- the number of w bits from bit p on -/
def numB (s : List Nat) (p w : Nat) : Nat := accB (fun i => bitAt s (p + i)) w
theorem numB_lt (s : List Nat) (p w : Nat) : numB s p w < 2 ^ w := accB_lt fun j _ => bitAt_lt _ _
theorem numB_or (s : List Nat) (p w : Nat) : numB s p w ||| bitAt s (p + w) * 2 ^ w = numB s p (w + 1) := accB_or fun j _ => bitAt_lt _ _
theorem numB_back {pre post : List Nat} {n w : Nat} (hn : n < 2 ^ w) (hb : Bits01 (pre ++ (bitsN n w ++ post))) : numB (bytesB (pre ++ (bitsN n w ++ post))) pre.length w = n := by
  unfold numB
  refine Eq.trans (accB_congr fun i hi => ?_) (accB_bits n hn)
  rw [bitAt_bytes hb, getD_app, if_neg (by omega), getD_app, if_pos (by rw [bitsN_len]; omega), show pre.length + i - pre.length = i by omega, bitsN_getD hi]
/-! ### pieces: a number and a width -/
def mayP (p : Nat × Int) : Prop := 0 ≤ p.2 ∧ p.2 ≤ 24 ∧ p.1 < 2 ^ p.2.toNat
instance (p : Nat × Int) : Decidable (mayP p) := by unfold mayP; infer_instance
def bitsP (l : List (Nat × Int)) : List Nat := l.flatMap fun p => bitsN p.1 p.2.toNat
theorem bitsP_app (a b : List (Nat × Int)) : bitsP (a ++ b) = bitsP a ++ bitsP b := by simp [bitsP]
theorem bitsP_01 : ∀ l : List (Nat × Int), Bits01 (bitsP l)
  | [] => fun j => by simp [bitsP]
  | p :: l => by
    have e : bitsP (p :: l) = bitsN p.1 p.2.toNat ++ bitsP l := rfl
    rw [e]
    exact (bitsN_01 _ _).app (bitsP_01 l)
def sizeP (l : List (Nat × Int)) : Nat := (l.map fun p => if mayP p then p.2.toNat else 0).sum
theorem bitsP_len : ∀ {l : List (Nat × Int)}, (∀ p ∈ l, mayP p) → (bitsP l).length = sizeP l
  | [], _ => rfl
  | p :: l, h => by
    have e : bitsP (p :: l) = bitsN p.1 p.2.toNat ++ bitsP l := rfl
    rw [e, List.length_append, bitsN_len, bitsP_len (fun q hq => h q (by simp [hq]))]
    simp [sizeP, h p (by simp)]
theorem sizeP_app (a b : List (Nat × Int)) : sizeP (a ++ b) = sizeP a + sizeP b := by simp [sizeP]
theorem sizeP_le : ∀ l : List (Nat × Int), sizeP l ≤ 24 * l.length
  | [] => by simp [sizeP]
  | p :: l => by
    have ih := sizeP_le l
    have h1 : (if mayP p then p.2.toNat else 0) ≤ 24 := by
      split
      · rename_i h; have := h.2.1; omega
      · omega
    have e : sizeP (p :: l) = (if mayP p then p.2.toNat else 0) + sizeP l := by simp [sizeP]
    rw [e, List.length_cons]
    omega
/-- what Pack tells: the bytes, and the error -/
def packP (l : List (Nat × Int)) : List Nat × Nat := if ∀ p ∈ l, mayP p then (bytesB (bitsP l), 0) else ([], 1)
theorem packP_bys (l : List (Nat × Int)) : Bys (packP l).1 := by
  unfold packP
  split
  · exact bytesB_bys (bitsP_01 l)
  · intro j; simp
/-- piece i of what was packed, taken -/
theorem take_pack {a b : List (Nat × Int)} {p : Nat × Int} (h : ∀ q ∈ a ++ p :: b, mayP q) : numB (bytesB (bitsP (a ++ p :: b))) (sizeP a) p.2.toNat = p.1 := by
  have ha : (bitsP a).length = sizeP a := bitsP_len fun q hq => h q (by simp [hq])
  have hp : mayP p := h p (by simp)
  have e : bitsP (a ++ p :: b) = bitsP a ++ (bitsN p.1 p.2.toNat ++ bitsP b) := by rw [bitsP_app]; rfl
  rw [e, ← ha]
  exact numB_back hp.2.2 (by rw [← e]; exact bitsP_01 _)
/-! ### a reader: bytes, and the bit ahead of which it stands -/
/-- what Take tells: the number, the error, where the reader stands -/
def takeP (s : List Nat) (p : Nat) (w : Int) : Nat × Nat × Nat :=
  if w < 0 ∨ 24 < w then (0, 1, p) else if 8 * s.length - p < w.toNat then (0, 40, p) else (numB s p w.toNat, 0, p + w.toNat)
/-- what End tells -/
def endP (s : List Nat) (p : Nat) : Nat := if 8 ≤ 8 * s.length - p then 42 else if ∃ i, i < 8 * s.length ∧ p ≤ i ∧ bitAt s i = 1 then 42 else 0
theorem takeP_le {s : List Nat} {p : Nat} (w : Int) (h : p ≤ 8 * s.length) : (takeP s p w).2.2 ≤ 8 * s.length := by
  unfold takeP
  split
  · exact h
  · split
    · exact h
    · show p + w.toNat ≤ _; omega
theorem end_pack {l : List (Nat × Int)} (h : ∀ q ∈ l, mayP q) : endP (bytesB (bitsP l)) (sizeP l) = 0 := by
  have hl := bitsP_len h
  have hb := bytesB_len (bitsP l)
  unfold endP
  rw [if_neg (by omega), if_neg]
  rintro ⟨i, _, h1, h2⟩
  rw [bitAt_bytes (bitsP_01 l), getD_over (by omega)] at h2
  cases h2
theorem size_pack {l : List (Nat × Int)} (h : ∀ q ∈ l, mayP q) : (bytesB (bitsP l)).length = (sizeP l + 7) / 8 := by rw [bytesB_len, bitsP_len h]
theorem take_piece {a b : List (Nat × Int)} {p : Nat × Int} (h : ∀ q ∈ a ++ p :: b, mayP q) : takeP (bytesB (bitsP (a ++ p :: b))) (sizeP a) p.2 = (p.1, 0, sizeP (a ++ [p])) := by
  have hp : mayP p := h p (by simp)
  have hs := size_pack h
  have e : sizeP (a ++ p :: b) = sizeP a + (p.2.toNat + sizeP b) := by rw [sizeP_app]; congr 1; simp [sizeP, hp]
  have e2 : sizeP (a ++ [p]) = sizeP a + p.2.toNat := by rw [sizeP_app]; congr 1; simp [sizeP, hp]
  unfold takeP
  rw [if_neg (by have := hp.1; have := hp.2.1; omega), if_neg (by rw [hs, e]; omega), take_pack h, e2]
theorem take_over {l : List (Nat × Int)} (h : ∀ q ∈ l, mayP q) : takeP (bytesB (bitsP l)) (sizeP l) 8 = (0, 40, sizeP l) := by
  have hs := size_pack h
  unfold takeP
  rw [if_neg (by omega), if_pos (by rw [hs, show (8 : Int).toNat = 8 from rfl]; omega)]
theorem pack_parts {a b : List (Nat × Int)} (h : sizeP a % 8 = 0) (ha : ∀ q ∈ a, mayP q) : bytesB (bitsP (a ++ b)) = bytesB (bitsP a) ++ bytesB (bitsP b) := by
  rw [bitsP_app]
  exact bytesB_app (by rw [bitsP_len ha]; exact h)
theorem take_one {s : List Nat} {p : Nat} (h : p < 8 * s.length) : takeP s p 1 = (bitAt s p, 0, p + 1) := by
  unfold takeP
  rw [if_neg (by omega), if_neg (by rw [show (1 : Int).toNat = 1 from rfl]; omega)]
  simp [numB, accB]
theorem take_none {s : List Nat} {p : Nat} (h : 8 * s.length ≤ p) : takeP s p 1 = (0, 40, p) := by
  unfold takeP
  rw [if_neg (by omega), if_pos (by rw [show (1 : Int).toNat = 1 from rfl]; omega)]
end Go.Proofs.Ytloogjdojojehaa
namespace Go.Proofs.Ytloogjdojojehaa
open Go.RowKit Go.ChangeShapes Go.WideShapes
set_option linter.unusedVariables false

/-- the slice value v has these rows, of k cells each -/
def Sl (w : World) (k : Nat) (v : Value) (rows : List (List Value)) : Prop :=
  (∀ r ∈ rows, r.length = k) ∧ ∃ p cap, v = .slice p rows.length cap ∧ ∀ i r, rows[i]? = some r → ∃ a : Addr, p = some a ∧ a.block < w.heap.size ∧ ∀ j x, r[j]? = some x → w.cell? (a.add (i * k + j)) = some x
theorem add_block (a : Addr) (n : Nat) : (a.add n).block = a.block := by unfold Addr.add; split <;> rfl
theorem Sl.below {w w' : World} {k : Nat} {v : Value} {rows : List (List Value)} (h : Sl w k v rows) (hb : Below w.heap.size w w') : Sl w' k v rows := by
  obtain ⟨h1, p, cap, h2, h3⟩ := h
  refine ⟨h1, p, cap, h2, fun i r hr => ?_⟩
  obtain ⟨a, q1, q2, q3⟩ := h3 i r hr
  refine ⟨a, q1, Nat.lt_of_lt_of_le q2 hb.size, fun j x hx => ?_⟩
  rw [hb.cell (by rw [add_block]; exact q2)]
  exact q3 j x hx
theorem Sl.alloc {w : World} {k : Nat} {v : Value} {rows : List (List Value)} (h : Sl w k v rows) (o : Obj) : Sl (w.alloc o) k v rows := h.below ((Below.refl _ _).alloc (Nat.le_refl _) o)
theorem Sl.isSlice {w : World} {k : Nat} {v : Value} {rows : List (List Value)} (h : Sl w k v rows) : ∃ p cap, v = .slice p rows.length cap := by
  obtain ⟨_, p, cap, h2, _⟩ := h
  exact ⟨p, cap, h2⟩
theorem Sl.row {w : World} {k : Nat} {p : Option Addr} {n cap : Nat} {rows : List (List Value)} (h : Sl w k (.slice p n cap) rows) {i : Nat} {r : List Value} (hr : rows[i]? = some r) :
    ∃ a : Addr, p = some a ∧ ∀ j x, r[j]? = some x → w.cell? ((a.add (i * k)).add j) = some x := by
  obtain ⟨_, p', cap', h2, h3⟩ := h
  cases h2
  obtain ⟨a, q1, _, q3⟩ := h3 i r hr
  exact ⟨a, q1, fun j x hx => by rw [Deep.add_add]; exact q3 j x hx⟩
theorem Sl.none {w : World} (k : Nat) : Sl w k (.slice .none 0 0) [] := ⟨(fun r h => by cases h), _, _, rfl, fun i r h => by simp at h⟩
section
variable {P : Program} {ops : Array Oper} {rest : List Oper} {o : Oper} {a : Act} {w : World} {Q : Exit → Act → World → Prop}
theorem run_loadVar_addr (w : World) (p : Addr) (ty : TypeId) (cs : List Value) (d : TypeDesc) (hc : ∀ j v, cs[j]? = some v → w.cell? (p.add j) = some v)
    (hu : P.underlying ty = some d) (hd : d.isRow = true) (hi : (P.info? ty).map (·.size) = some cs.length) :
    (loadVar ty p).run P w = .ok (.agg cs.toArray) w := by
  have hl : (loadCells p cs.length).run P w = .ok cs.toArray w := run_loadCells_list (P := P) w p cs hc
  cases hq : P.info? ty with
  | none => simp [hq] at hi
  | some i =>
    have hs : i.size = cs.length := by simpa [hq] using hi
    have hagg : (isAgg ty).run P w = .ok true w := by
      unfold isAgg
      rw [Sem.run_bind, run_underlying hu w]
      cases d <;> simp_all
    simp [loadVar, Sem.run_bind, hagg, sizeOf, typeInfo, hq, hs, hl]
/-- a whole row is read, wherever it lies -/
theorem wpList_load_addr (hgd : o.guard = none) (ty : TypeId) (x : Operand) (ho : o.op = .load ty x)
    (p : Addr) (hx : a.eval x = .pointer (some p)) (cs : List Value) {d : TypeDesc} (hc : ∀ j v, cs[j]? = some v → w.cell? (p.add j) = some v)
    (hu : P.underlying ty = some d) (hd : d.isRow = true) (hi : (P.info? ty).map (·.size) = some cs.length)
    (h : wpList P ops Q rest (a.put o.dst (.agg cs.toArray)) w) : wpList P ops Q (o :: rest) a w :=
  wpList_plain hgd fun _ hK => by
    unfold Oper.wp execOp
    simp only [ho, hx, Instr.loadAt, Instr.sureAddr, Sem.run_bind, Sem.run_pure, Result.andThen_ok, run_loadVar_addr w p ty cs d hc hu hd hi]
    exact hK _ _ h
end
/-! ### as arguments -/
section
variable {H : Type} {enc : TypeId × Value → H} {P : Program} {w : World} {base : Nat} {spare : Nat → Bool} {held : Bool}
theorem rows_of {k : Nat} (a : Addr) (len cap : Nat) (R : Nat → List Value) (hk : ∀ i, i < len → (R i).length = k) (hb : 0 < len → a.block < w.heap.size)
    (hc : ∀ i, i < len → ∀ j x, (R i)[j]? = some x → w.cell? (a.add (i * k + j)) = some x) : Sl w k (.slice (some a) len cap) ((List.range len).map R) := by
  refine ⟨fun r hr => ?_, some a, cap, by simp, fun i r hr => ?_⟩
  · obtain ⟨i, hi, rfl⟩ := List.mem_map.1 hr
    exact hk i (List.mem_range.1 hi)
  · have hi : i < len := by
      have := (List.getElem?_eq_some_iff.1 hr).1
      simpa using this
    rw [List.getElem?_map, List.getElem?_range hi] at hr
    cases hr
    exact ⟨a, rfl, hb (by omega), hc i hi⟩
theorem cell_lt {p : Addr} {v : Value} (h : w.cell? p = some v) : p.block < w.heap.size := by
  unfold World.cell? at h
  by_cases hb : p.block < w.heap.size
  · exact hb
  · rw [Array.getElem?_eq_none (by omega)] at h
    simp at h
/-- a slice of pairs of integers, as an argument -/
theorem open_pairs {t e : TypeId} {f0 f1 : Field} {k0 k1 : IntKind} {p0 : Option Addr} {len cap : Nat} {d : DataW H} {p : List MemPlace} (ht : P.underlying t = some (.slice e)) (he : P.underlying e = some (.struct #[f0, f1]))
    (ce : P.cellsOf e = 2) (o0 : f0.offset = 0) (o1 : f1.offset = 1) (c0 : P.cellsOf f0.type = 1) (c1 : P.cellsOf f1.type = 1) (u0 : P.underlying f0.type = some (.int k0)) (u1 : P.underlying f1.type = some (.int k1))
    (h : DataW.Trod enc P w base spare held t (.slice p0 len cap) d p) :
    ∃ l : List (Int × Int), l.length = len ∧ Sl w 2 (.slice p0 len cap) (l.map fun q => [.int k0 q.1, .int k1 q.2]) ∧ (∀ q ∈ l, (Lit.int k0 q.1).wf = true ∧ (Lit.int k1 q.2).wf = true) ∧ len ≤ maxLen := by
  obtain ⟨m, hm⟩ := h
  have hcells : (Value.slice p0 len cap).cells.toList = [.slice p0 len cap] := rfl
  rw [hcells] at hm
  rcases Deep.open_slice_pairs ht he ce o0 o1 c0 c1 hm with ⟨hcs, _⟩ | ⟨a, len', cap', m', n, V0, V1, D0, D1, P0, P1, hcs, hb, hl, hcap, hmm, hx, hall⟩
  · cases hcs
    exact ⟨[], rfl, Sl.none 2, fun q h => by simp at h, by simp [maxLen]⟩
  · cases hcs
    have hlm : len ≤ m' := by rw [hmm]; split <;> omega
    have each : ∀ i, i < len → ∃ q : Int × Int, V0 i = .int k0 q.1 ∧ V1 i = .int k1 q.2 ∧ (Lit.int k0 q.1).wf = true ∧ (Lit.int k1 q.2).wf = true := fun i hi => by
      obtain ⟨_, _, g0, g1⟩ := hall i (by omega)
      obtain ⟨x, e0, _, w0⟩ := DataW.trod_int u0 g0
      obtain ⟨y, e1, _, w1⟩ := DataW.trod_int u1 g1
      exact ⟨(x, y), by simpa using e0, by simpa using e1, w0, w1⟩
    obtain ⟨q, hq⟩ := Deep.choose_lt each
    refine ⟨(List.range len).map q, by simp, ?_, fun r hr => ?_, by omega⟩
    · rw [List.map_map]
      refine rows_of a len cap _ (fun i hi => rfl) (fun h0 => ?_) (fun i hi j x hj => ?_)
      · have := cell_lt (hall 0 (by omega)).1
        rwa [add_block] at this
      · obtain ⟨g0, g1, _, _⟩ := hall i (by omega)
        obtain ⟨e0, e1, _, _⟩ := hq i hi
        match j, hj with
        | 0, hj =>
          cases hj
          rw [← e0]; exact g0
        | 1, hj =>
          cases hj
          rw [← e1]; exact g1
        | _ + 2, hj => simp at hj
    · obtain ⟨i, hi, rfl⟩ := List.mem_map.1 hr
      obtain ⟨_, _, w0, w1⟩ := hq i (List.mem_range.1 hi)
      exact ⟨w0, w1⟩
/-- a slice of integers, as an argument -/
theorem open_nums {t e : TypeId} {k0 : IntKind} {p0 : Option Addr} {len cap : Nat} {d : DataW H} {p : List MemPlace} (ht : P.underlying t = some (.slice e)) (he : P.underlying e = some (.int k0))
    (ce : P.cellsOf e = 1) (h : DataW.Trod enc P w base spare held t (.slice p0 len cap) d p) :
    ∃ l : List Int, l.length = len ∧ Sl w 1 (.slice p0 len cap) (l.map fun q => [.int k0 q]) ∧ (∀ q ∈ l, (Lit.int k0 q).wf = true) ∧ len ≤ maxLen := by
  obtain ⟨m, hm⟩ := h
  have hcells : (Value.slice p0 len cap).cells.toList = [.slice p0 len cap] := rfl
  rw [hcells] at hm
  rcases Deep.open_slice1 ht ce hm with ⟨hcs, _⟩ | ⟨a, len', cap', m', n, V, D, Pl, hcs, hb, hl, hcap, hmm, hx, hall⟩
  · cases hcs
    exact ⟨[], rfl, Sl.none 1, fun q h => by simp at h, by simp [maxLen]⟩
  · cases hcs
    have hlm : len ≤ m' := by rw [hmm]; split <;> omega
    have each : ∀ i, i < len → ∃ q : Int, V i = .int k0 q ∧ (Lit.int k0 q).wf = true := fun i hi => by
      obtain ⟨_, g0⟩ := hall i (by omega)
      obtain ⟨x, e0, _, w0⟩ := DataW.trod_int he g0
      exact ⟨x, by simpa using e0, w0⟩
    obtain ⟨q, hq⟩ := Deep.choose_lt each
    refine ⟨(List.range len).map q, by simp, ?_, fun r hr => ?_, by omega⟩
    · rw [List.map_map]
      refine rows_of a len cap _ (fun i hi => rfl) (fun h0 => ?_) (fun i hi j x hj => ?_)
      · have := cell_lt (hall 0 (by omega)).1
        rwa [add_block] at this
      · obtain ⟨g0, _⟩ := hall i (by omega)
        obtain ⟨e0, _⟩ := hq i hi
        match j, hj with
        | 0, hj =>
          cases hj
          rw [← e0, Nat.mul_one]; exact g0
        | _ + 1, hj => simp at hj
    · obtain ⟨i, hi, rfl⟩ := List.mem_map.1 hr
      exact (hq i (List.mem_range.1 hi)).2
end
end Go.Proofs.Ytloogjdojojehaa
namespace Go.Proofs.Ytloogjdojojehaa
open Go.RowKit
set_option linter.unusedVariables false

theorem flat_at {k : Nat} : ∀ {rows : List (List Value)}, (∀ r ∈ rows, r.length = k) → ∀ {i : Nat} {r : List Value}, rows[i]? = some r → ∀ {j : Nat} {x : Value}, r[j]? = some x → rows.flatten[i * k + j]? = some x
  | [], _, i, r, hr, _, _, _ => by simp at hr
  | r0 :: rows, hk, 0, r, hr, j, x, hx => by
    have e : r0 = r := by simpa using hr
    subst e
    have hj : j < r0.length := (List.getElem?_eq_some_iff.1 hx).1
    rw [List.flatten_cons, Nat.zero_mul, Nat.zero_add, List.getElem?_append_left hj]
    exact hx
  | r0 :: rows, hk, i + 1, r, hr, j, x, hx => by
    have hr' : rows[i]? = some r := by simpa using hr
    have h0 : r0.length = k := hk r0 (by simp)
    rw [List.flatten_cons, List.getElem?_append_right (by rw [h0, Nat.add_mul]; omega), h0, show (i + 1) * k + j - k = i * k + j by rw [Nat.add_mul]; omega]
    exact flat_at (fun q hq => hk q (by simp [hq])) hr' hx
theorem flat_len {k : Nat} : ∀ {rows : List (List Value)}, (∀ r ∈ rows, r.length = k) → rows.flatten.length = rows.length * k
  | [], _ => by simp
  | r0 :: rows, hk => by
    rw [List.flatten_cons, List.length_append, flat_len (fun q hq => hk q (by simp [hq])), hk r0 (by simp), List.length_cons, Nat.add_mul]
    omega
theorem flat_from {k : Nat} (hk0 : 0 < k) {rows : List (List Value)} (hk : ∀ r ∈ rows, r.length = k) {j : Nat} {u : Value} (hu : rows.flatten[j]? = some u) : ∃ i r m, rows[i]? = some r ∧ r[m]? = some u ∧ j = i * k + m ∧ m < k := by
  have hj : j < rows.length * k := by rw [← flat_len hk]; exact (List.getElem?_eq_some_iff.1 hu).1
  have hi : j / k < rows.length := Nat.div_lt_of_lt_mul (by rw [Nat.mul_comm]; exact hj)
  have hm : j % k < k := Nat.mod_lt _ hk0
  have hr : rows[j / k]? = some rows[j / k] := List.getElem?_eq_getElem hi
  have hl : rows[j / k].length = k := hk _ (List.getElem_mem _)
  have hx : rows[j / k][j % k]? = some (rows[j / k][j % k]'(by omega)) := List.getElem?_eq_getElem _
  have e : j = j / k * k + j % k := by have := Nat.div_add_mod j k; rw [Nat.mul_comm] at this; omega
  have := flat_at hk hr hx
  rw [← e, hu] at this
  exact ⟨j / k, rows[j / k], j % k, hr, by rw [hx]; exact this.symm, e, hm⟩
/-- the slice value v is the call's own and has these rows, of k cells each; e: the element's type -/
def OwnR (w : World) (base : Nat) (e : TypeId) (k : Nat) (v : Value) (rows : List (List Value)) : Prop := (∀ r ∈ rows, r.length = k) ∧ w.ownsRow base e k v rows.length rows.flatten
theorem OwnR.nil (w : World) (base : Nat) (e : TypeId) (k : Nat) : OwnR w base e k (.slice none 0 0) [] := ⟨(fun r h => by cases h), World.ownsRow_nil w base e k⟩
/-- an empty literal -/
theorem OwnR.empty (w : World) (base : Nat) (e : TypeId) (k : Nat) (hb : base ≤ w.heap.size) : OwnR (w.alloc (.cells #[] e)) base e k (.slice (some ⟨w.heap.size, 0, none⟩) 0 0) [] :=
  ⟨(fun r h => by cases h), World.ownsRow_lit w #[] 0 hb (by simp [maxLen]) (by simp)⟩
theorem OwnR.lt {w : World} {base : Nat} {e : TypeId} {k : Nat} {v : Value} {rows : List (List Value)} (h : OwnR w base e k v rows) : ∀ b, v.ownBlock = some b → base ≤ b ∧ b < w.heap.size := h.2.lt
theorem OwnR.below {w w' : World} {B base : Nat} {e : TypeId} {k : Nat} {v : Value} {rows : List (List Value)} (h : OwnR w base e k v rows) (hb : Below B w w') (hB : ∀ b, v.ownBlock = some b → b < B) : OwnR w' base e k v rows := by
  obtain ⟨h0, h1, h2⟩ := h
  refine ⟨h0, h1, ?_⟩
  rcases h2 with h2 | ⟨g, cap, cur, hv, hg, hh, r⟩
  · exact .inl h2
  · refine .inr ⟨g, cap, cur, hv, hg, ?_, r⟩
    rw [hb.block g (hB g (by rw [hv]; rfl))]; exact hh
theorem OwnR.keep {w w' : World} {base : Nat} {e : TypeId} {k : Nat} {v : Value} {rows : List (List Value)} (h : OwnR w base e k v rows) (hb : Below w.heap.size w w') : OwnR w' base e k v rows := h.below hb (fun b hk => (h.lt b hk).2)
theorem OwnR.alloc {w : World} {base : Nat} {e : TypeId} {k : Nat} {v : Value} {rows : List (List Value)} (h : OwnR w base e k v rows) (o : Obj) : OwnR (w.alloc o) base e k v rows := h.keep ((Below.refl _ _).alloc (Nat.le_refl _) o)
theorem OwnR.sl {w : World} {base : Nat} {e : TypeId} {k : Nat} {v : Value} {rows : List (List Value)} (h : OwnR w base e k v rows) : Sl w k v rows := by
  obtain ⟨h0, h1, h2⟩ := h
  refine ⟨h0, ?_⟩
  rcases h2 with ⟨hv, hn⟩ | ⟨g, cap, cur, hv, hg, hh, hn, hm, hcs, htk⟩
  · have e0 : rows = [] := List.eq_nil_of_length_eq_zero hn
    subst e0
    exact ⟨none, 0, hv, fun i r h => by simp at h⟩
  · refine ⟨_, cap, hv, fun i r hr => ⟨_, rfl, ?_, fun j x hx => ?_⟩⟩
    · rcases Nat.lt_or_ge g w.heap.size with hb | hb
      · exact hb
      · rw [Array.getElem?_eq_none hb] at hh; cases hh
    · have hf := flat_at h0 hr hx
      rw [Addr.add_mid, Nat.zero_add, cell_of_row w g _ cur e (0, 0) hh]
      have hlt : i * k + j < rows.length * k := by rw [← flat_len h0]; exact (List.getElem?_eq_some_iff.1 hf).1
      rw [← htk, List.getElem?_take, if_pos hlt] at hf
      simpa using hf
theorem OwnR.isSlice {w : World} {base : Nat} {e : TypeId} {k : Nat} {v : Value} {rows : List (List Value)} (h : OwnR w base e k v rows) : ∃ p cap, v = .slice p rows.length cap := h.sl.isSlice
section
variable {P : Program} {ops : Array Oper} {rest : List Oper} {o : Oper} {a : Act} {w : World} {Q : Exit → Act → World → Prop}
/-- rows are appended to a slice of the call's own -/
theorem wpList_append_rows (hgd : o.guard = none) (s x : Operand) (t : TypeId) (ho : o.op = .call { callee := .builtin .append, args := #[s, x], argTypes := #[t, t] })
    (base : Nat) (e : TypeId) (i : TypeInfo) (z : Value) (k bytes : Nat) (ht : P.underlying t = some (.slice e)) (hi : P.info? e = some i) (hz : i.zero = some z) (hsize : i.size = k) (hby : i.bytes = bytes) (hzs : z.cells.size = k) (hk : 0 < k)
    (v : Value) (rows : List (List Value)) (hs : a.eval s = v) (hown : OwnR w base e k v rows) (vx : Value) (news : List (List Value)) (hx : a.eval x = vx) (hnew : Sl w k vx news) (h1 : ∀ r ∈ news, ∀ u ∈ r, u.oneCell' = true)
    (h63 : rows.length + news.length ≤ maxLen) (hbytes : (rows.length + news.length) * bytes ≤ 140737488355328) (hbase : base ≤ w.heap.size) (hnil : vx = .slice none 0 0 ∨ ∃ ad n c, vx = .slice (some ad) n c)
    (h : ∀ v' w', OwnR w' base e k v' (rows ++ news) → w.grownBy w' v.ownBlock → (v'.ownBlock = v.ownBlock ∨ v'.ownBlock = some w.heap.size) → wpList P ops Q rest (a.put o.dst v') w') : wpList P ops Q (o :: rest) a w := by
  obtain ⟨k0, p, c, hv, hcell⟩ := hnew
  rcases hnil with rfl | ⟨ad, n, c', rfl⟩
  · have hn : news = [] := by
      simp only [Value.slice.injEq] at hv
      exact List.eq_nil_of_length_eq_zero hv.2.1.symm
    subst hn
    refine wpList_plain hgd fun K hK => ?_
    have hr := run_append_owned_none (P := P) (w := w) base t o.type e i k ht hi v rows.length rows.flatten hown.2
    unfold Oper.wp execOp
    simp only [ho, resolve, invoke, builtin, Sem.run_bind, Sem.run_pure, Result.andThen_ok, List.map_toArray, List.map_cons, List.map_nil, hs, hx, hr]
    refine hK _ _ (h v w (by rw [List.append_nil]; exact hown) ⟨rfl, rfl, rfl, Nat.le_refl _, fun _ _ _ => rfl⟩ (.inl rfl))
  · simp only [Value.slice.injEq] at hv
    obtain ⟨rfl, rfl, rfl⟩ := hv
    refine wpList_append_own_at w hgd s x t ho base e i z k bytes ht hi hz hsize hby hzs hk v rows.length rows.flatten hs hown.2 ad news.length c' news.flatten hx (flat_len k0) (fun j u hu => ?_) (fun u hu => ?_) h63 hbytes hbase (fun v' w' q1 q2 q3 q4 => ?_)
    · obtain ⟨i', r, m, hr, hm, rfl, _⟩ := flat_from hk k0 hu
      obtain ⟨a', ha, _, hc⟩ := hcell i' r hr
      cases ha
      exact hc m u hm
    · obtain ⟨r, hr, hur⟩ := List.mem_flatten.1 hu
      exact h1 r hr u hur
    · refine h v' w' ⟨fun r hr => ?_, ?_⟩ q2 q4
      · rcases List.mem_append.1 hr with hr | hr
        · exact hown.1 r hr
        · exact k0 r hr
      · rw [List.length_append, List.flatten_append]; exact q1
end
def OwnRetR (e : TypeId) (k : Nat) (rows : List (List Value)) (w : World) (r : Ending) (w' : World) : Prop := ∃ v, r = .returned v ∧ OwnR w' w.heap.size e k v rows ∧ Below w.heap.size w w'
theorem info_parts2 {P : Program} {e : TypeId} {z : Value} {k n : Nat} (h : (P.info? e).map (fun i => (i.zero, i.size, i.bytes)) = some (some z, k, n)) : ∃ i, P.info? e = some i ∧ i.zero = some z ∧ i.size = k ∧ i.bytes = n := by
  cases hi : P.info? e with
  | none => rw [hi] at h; cases h
  | some i =>
    rw [hi] at h
    simp only [Option.map_some, Option.some.injEq, Prod.mk.injEq] at h
    exact ⟨i, rfl, h.1, h.2.1, h.2.2⟩
/-- one row in a block of its own, as a slice -/
theorem sl_one {w : World} {b : Nat} {t : TypeId} {r : List Value} (h : Blk w b t r) : Sl w r.length (.slice (some ⟨b, 0, none⟩) 1 1) [r] := by
  refine ⟨fun q hq => by rw [List.mem_singleton.1 hq], _, 1, rfl, fun i q hq => ?_⟩
  have hi : i = 0 := by have := (List.getElem?_eq_some_iff.1 hq).1; simpa using this
  subst hi
  have e : r = q := by simpa using hq
  subst e
  refine ⟨_, rfl, h.lt, fun j x hx => ?_⟩
  rw [Addr.add_mid, h.cell]
  simpa using hx
/-! ### slices of the call's own, while other blocks are written -/
theorem grown_setCell (w : World) (a : Addr) (u : Value) : w.grownBy (w.setCell a u) (some a.block) :=
  ⟨rfl, rfl, rfl, (KeepsWalks.setCell w a u).size, fun k _ hk => Below.heap_setCell _ _ _ k (fun e => hk (by rw [e]))⟩
/-- the block of an own row is none of another type -/
theorem OwnR.ne {w : World} {base : Nat} {e : TypeId} {k : Nat} {v : Value} {rows : List (List Value)} (h : OwnR w base e k v rows) {b : Nat} {t : TypeId} {vs : List Value} (hb : Blk w b t vs) (ht : t ≠ e) : ∀ i, v.ownBlock = some i → i ≠ b := by
  rintro i hi rfl
  rcases h.2.2 with ⟨hv, _⟩ | ⟨g, cap, cur, hv, hg, hh, r⟩
  · rw [hv] at hi; cases hi
  · rw [hv] at hi
    cases hi
    unfold Blk at hb
    rw [hb] at hh
    simp at hh
    exact ht hh.2
theorem OwnR.grownO {w w' : World} {base : Nat} {e : TypeId} {k : Nat} {v : Value} {rows : List (List Value)} (h : OwnR w base e k v rows) {o : Option Nat} (hg : w.grownBy w' o) (hne : ∀ b, v.ownBlock = some b → some b ≠ o) : OwnR w' base e k v rows := by
  obtain ⟨k0, k1, k2⟩ := h
  refine ⟨k0, k1, ?_⟩
  rcases k2 with h | ⟨g, cap, cur, hv, hgg, hh, rest⟩
  · exact .inl h
  · refine .inr ⟨g, cap, cur, hv, hgg, ?_, rest⟩
    have hlt : g < w.heap.size := by
      rcases Nat.lt_or_ge g w.heap.size with hb | hb
      · exact hb
      · rw [Array.getElem?_eq_none hb] at hh; cases hh
    rw [hg.block g hlt (hne g (by rw [hv]; rfl))]
    exact hh
theorem OwnR.apart {w : World} {base base' : Nat} {e e' : TypeId} {k k' : Nat} {v v' : Value} {rows rows' : List (List Value)} (h : OwnR w base e k v rows) (h' : OwnR w base' e' k' v' rows') (ht : e ≠ e') : ∀ b, v.ownBlock = some b → some b ≠ v'.ownBlock := by
  intro b hb e0
  rcases h.2.2 with ⟨hv, _⟩ | ⟨g, cap, cur, hv, hg, hh, r⟩
  · rw [hv] at hb; cases hb
  · rw [hv] at hb
    cases hb
    exact h'.ne (b := g) (t := e) (vs := cur.toList) (by unfold Blk; exact hh) ht g e0.symm rfl
theorem OwnR.cellOther {w : World} {base : Nat} {e : TypeId} {k : Nat} {v : Value} {rows : List (List Value)} (h : OwnR w base e k v rows) {b : Nat} {t : TypeId} {vs : List Value} (hb : Blk w b t vs) (ht : t ≠ e) (j : Nat) (u : Value) : OwnR (w.setCell ⟨b, j, none⟩ u) base e k v rows := h.grownO (grown_setCell w ⟨b, j, none⟩ u) (fun i hi e => h.ne hb ht i hi (Option.some.inj e))
theorem Blk.grownP {w w' : World} {b : Nat} {t : TypeId} {vs : List Value} {o : Option Nat} (h : Blk w b t vs) (hg : w.grownBy w' o) (hne : o ≠ some b) : Blk w' b t vs := (hg.block b h.lt (fun e => hne e.symm)).trans h
theorem OwnR.blkR {w : World} {base : Nat} {e : TypeId} {k : Nat} {v : Value} {rows : List (List Value)} (h : OwnR w base e k v rows) (h0 : 0 < rows.length) :
    ∃ g cap rest, v = .slice (some ⟨g, 0, none⟩) rows.length cap ∧ base ≤ g ∧ Blk w g e (rows.flatten ++ rest) := by
  obtain ⟨k0, k1, k2⟩ := h
  rcases k2 with ⟨hv, hn⟩ | ⟨g, cap, cur, hv, hg, hh, hn, hm, hcs, htk⟩
  · omega
  · have e0 : cur.toList = rows.flatten ++ cur.toList.drop (rows.length * k) := by rw [← htk, List.take_append_drop]
    refine ⟨g, cap, cur.toList.drop (rows.length * k), hv, hg, ?_⟩
    unfold Blk
    rw [← e0]
    exact hh
theorem sl_blkS {w : World} {b k cap : Nat} {t : TypeId} {rows : List (List Value)} {rest : List Value} (hk : ∀ r ∈ rows, r.length = k) (h : Blk w b t (rows.flatten ++ rest)) : Sl w k (.slice (some ⟨b, 0, none⟩) rows.length cap) rows := by
  refine ⟨hk, _, cap, rfl, fun i r hr => ⟨_, rfl, h.lt, fun j x hx => ?_⟩⟩
  rw [Addr.add_mid, h.cell]
  have := flat_at hk hr hx
  rw [List.getElem?_append_left (by simpa using (List.getElem?_eq_some_iff.1 this).1)]
  simpa using this
end Go.Proofs.Ytloogjdojojehaa
namespace Go.Proofs.Ytloogjdojojehaa
open Go.RowKit
set_option linter.unusedVariables false

section
variable {P : Program} {m : Nat} {ops : Array Oper} {rest : List Oper} {o : Oper} {a : Act} {w : World} {Q : Exit → Act → World → Prop}
theorem wp_load_addr {K : Act → World → Prop} (ty : TypeId) (x : Operand) (ho : o.op = .load ty x)
    (p : Addr) (hx : a.eval x = .pointer (some p)) (cs : List Value) {d : TypeDesc} (hc : ∀ j v, cs[j]? = some v → w.cell? (p.add j) = some v)
    (hu : P.underlying ty = some d) (hd : d.isRow = true) (hi : (P.info? ty).map (·.size) = some cs.length)
    (h : K (a.put o.dst (.agg cs.toArray)) w) : o.wp P a w K Q := by
  unfold Oper.wp execOp
  simp only [ho, hx, Instr.loadAt, Instr.sureAddr, Sem.run_bind, Sem.run_pure, Result.andThen_ok, run_loadVar_addr w p ty cs d hc hu hd hi]
  exact h
theorem wpListIn_load_addr (hgd : o.guard = none) (ty : TypeId) (x : Operand) (ho : o.op = .load ty x)
    (p : Addr) (hx : a.eval x = .pointer (some p)) (cs : List Value) {d : TypeDesc} (hc : ∀ j v, cs[j]? = some v → w.cell? (p.add j) = some v)
    (hu : P.underlying ty = some d) (hd : d.isRow = true) (hi : (P.info? ty).map (·.size) = some cs.length)
    (h : wpListIn Fence.wide m P ops Q rest (a.put o.dst (.agg cs.toArray)) w) : wpListIn Fence.wide m P ops Q (o :: rest) a w :=
  wpListIn_plain hgd fun K hK => operIn_wide (by rw [ho]; intro c hc; cases hc) (wp_load_addr ty x ho p hx cs hc hu hd hi (hK _ _ h))
theorem wpListIn_load_addrR (l : Nat) (hgd : o.guard = none) (ty : TypeId) (x : Operand) (ho : o.op = .load ty x)
    (p : Addr) (hx : a.eval x = .pointer (some p)) (cs : List Value) {d : TypeDesc} (hc : ∀ j v, cs[j]? = some v → w.cell? (p.add j) = some v)
    (hu : P.underlying ty = some d) (hd : d.isRow = true) (hi : (P.info? ty).map (·.size) = some cs.length)
    (h : wpListIn (Fence.wide.inRound l) m P ops Q rest (a.put o.dst (.agg cs.toArray)) w) : wpListIn (Fence.wide.inRound l) m P ops Q (o :: rest) a w :=
  wpListIn_plain hgd fun K hK => operIn_of (K := fun a w => K a w) l (by rw [ho]; intro c hc; cases hc) (fun _ _ h => h) (wp_load_addr ty x ho p hx cs hc hu hd hi (hK _ _ h))
end
/-- what a round must keep: whatever cells lay below B, at G, or were made from M on -/
def KpC (B G M : Nat) (X Y : World) : Prop := ∀ k o, (k < B ∨ k = G ∨ M ≤ k) → X.heap[k]? = some o → o.isCells = true → Y.heap[k]? = some o
theorem KpC.refl (B G M : Nat) (W : World) : KpC B G M W W := fun _ _ _ h _ => h
theorem KpC.trans {B G M : Nat} {X Y Z : World} (h : KpC B G M X Y) (k : KpC B G M Y Z) : KpC B G M X Z := fun i o hi ho hc => k i o hi (h i o hi ho hc) hc
theorem KpC.put {B G M : Nat} (W : World) (l : Nat) (o o' : Obj) (h : W.heap[l]? = some o) (hc : o.isCells = false) : KpC B G M W (W.putObj l o') := fun i oi hi ho hc' => by
  by_cases e : i = l
  · subst e
    rw [h] at ho
    cases ho
    rw [hc] at hc'
    cases hc'
  · exact (World.putObj_heap_other (by omega)).trans ho
theorem KpC.of_below {B G M : Nat} {W W' : World} (h : Below W.heap.size W W') : KpC B G M W W' := fun i o hi ho hc => by
  have hlt := (Array.getElem?_eq_some_iff.1 ho).1
  rw [h.block i hlt]; exact ho
theorem KpC.blk {B G M : Nat} {X Y : World} (h : KpC B G M X Y) {b : Nat} {t : TypeId} {vs : List Value} (hb : b < B ∨ b = G ∨ M ≤ b) (k : Blk X b t vs) : Blk Y b t vs := h b _ hb k rfl
/-- a cell outside of what is kept is written -/
theorem KpC.setCell {B G M : Nat} (W : World) (a : Addr) (v : Value) (h1 : B ≤ a.block) (h2 : a.block ≠ G) (h3 : a.block < M) : KpC B G M W (W.setCell a v) := fun i o hi ho _ => by
  rw [Below.heap_setCell W a v i (by omega)]; exact ho
theorem cells_of {w : World} {a : Addr} {x : Value} (h : w.cell? a = some x) : ∃ o, w.heap[a.block]? = some o ∧ o.isCells = true := by
  unfold World.cell? at h
  cases ho : w.heap[a.block]? with
  | none => rw [ho] at h; cases h
  | some o =>
    rw [ho] at h
    cases o <;> first | exact ⟨_, rfl, rfl⟩ | cases h
theorem cell_same {X Y : World} {a : Addr} (h : Y.heap[a.block]? = X.heap[a.block]?) : Y.cell? a = X.cell? a := by unfold World.cell?; rw [h]
/-- rows that lie below B are kept -/
theorem Sl.kept {B G M : Nat} {X Y : World} {k : Nat} (hk0 : 0 < k) {p : Option Addr} {n cap : Nat} {rows : List (List Value)} (h : Sl X k (.slice p n cap) rows) (hk : KpC B G M X Y) (hB : ∀ a, p = some a → 0 < n → a.block < B) : Sl Y k (.slice p n cap) rows := by
  obtain ⟨h1, p', cap', e, h3⟩ := h
  cases e
  refine ⟨h1, p, cap, rfl, fun i r hr => ?_⟩
  obtain ⟨a, rfl, q2, q3⟩ := h3 i r hr
  have hi : i < rows.length := (List.getElem?_eq_some_iff.1 hr).1
  have hrk := h1 r (List.mem_of_getElem? hr)
  have hb := hB a rfl (by omega)
  obtain ⟨o, ho, hc⟩ := cells_of (q3 0 (r[0]'(by omega)) (List.getElem?_eq_getElem _))
  rw [add_block] at ho
  have hY := hk _ o (.inl hb) ho hc
  refine ⟨a, rfl, (Array.getElem?_eq_some_iff.1 hY).1, fun j x hx => ?_⟩
  rw [cell_same (X := X) (by rw [add_block, hY, ho])]
  exact q3 j x hx
theorem Sl.lt {w : World} {k : Nat} {p : Option Addr} {n cap : Nat} {rows : List (List Value)} (h : Sl w k (.slice p n cap) rows) : ∀ a, p = some a → 0 < n → a.block < w.heap.size := by
  obtain ⟨_, p', cap', e, h3⟩ := h
  cases e
  rintro a rfl h0
  obtain ⟨a', e', q, _⟩ := h3 0 _ (List.getElem?_eq_getElem h0)
  cases e'
  exact q
end Go.Proofs.Ytloogjdojojehaa
namespace Go.Proofs.Ytloogjdojojehaa
open Go.RowKit
set_option linter.unusedVariables false

/-- what a reader's variable has: the text, and the bit ahead of which it stands -/
def rdr (s : ByteArray) (p : Nat) : List Value := [.string s, .int .i64 (p : Int)]
theorem and_one_u8 (b : Nat) (h : b < 256) : bits .and .u8 (b : Int) 1 = ((b % 2 : Nat) : Int) := by
  have h' : ∀ m : Fin 256, bits .and .u8 (m.val : Int) 1 = ((m.val % 2 : Nat) : Int) := by decide +kernel
  exact h' ⟨b, h⟩
/-! ### the reference's -/
end Go.Proofs.Ytloogjdojojehaa
namespace Go.Proofs.Ytloogjdojojehaa
open Go.RowKit
set_option linter.unusedVariables false

/-- pieces as rows -/
def rowP (q : Nat × Int) : List Value := [.int .u32 (q.1 : Int), .int .i64 q.2]
def rowsP (l : List (Nat × Int)) : List (List Value) := l.map rowP
theorem rowsP_len (l : List (Nat × Int)) : (rowsP l).length = l.length := by simp [rowsP]
theorem rowP_one (q : Nat × Int) : (rowP q).toArray.all (·.oneCell') = true := by simp [rowP, Value.oneCell']
theorem rowsP_at {l : List (Nat × Int)} {j : Nat} (h : j < l.length) : (rowsP l)[j]? = some (rowP l[j]) := by simp [rowsP, h]
theorem sizeP_snoc (l : List (Nat × Int)) (j : Nat) (h : j < l.length) : sizeP (l.take (j + 1)) = sizeP (l.take j) + if mayP l[j] then l[j].2.toNat else 0 := by
  rw [List.take_succ_eq_append_getElem h, sizeP_app]
  simp [sizeP]
end Go.Proofs.Ytloogjdojojehaa
namespace Go.Proofs.Ytloogjdojojehaa
open Go.RowKit Go.Shelf
set_option linter.unusedVariables false

attribute [local go_sem] Oper.semAt_some

theorem bitsP_snoc (l : List (Nat × Int)) (j : Nat) (h : j < l.length) : bitsP (l.take (j + 1)) = bitsP (l.take j) ++ bitsN l[j].1 l[j].2.toNat := by
  rw [List.take_succ_eq_append_getElem h, bitsP_app]
  congr 1
  simp [bitsP]
theorem sizeP_take (l : List (Nat × Int)) (j : Nat) : sizeP (l.take j) ≤ sizeP l := by
  have := sizeP_app (l.take j) (l.drop j)
  rw [List.take_append_drop] at this
  omega
theorem and_one_u32 (b : Nat) (h : b < 4294967296) : bits .and .u32 (b : Int) 1 = ((b % 2 : Nat) : Int) := by
  have := (bits_nat .u32 32 (by decide) (fun n h0 h1 => by rw [IntKind.wrap_u32]; omega) b 1 h (by decide)).1
  rw [show ((1 : Nat) : Int) = 1 from rfl] at this
  rw [this, Nat.and_one_is_mod]
end Go.Proofs.Ytloogjdojojehaa
namespace Go.Proofs.Ytloogjdojojehaa
set_option linter.unusedVariables false

/-- N bytes, with these bits first and zeros behind -/
def partB (N : Nat) (pre : List Nat) : List Nat := (List.range N).map fun j => accB (fun k => pre.getD (8 * j + k) 0) 8
theorem partB_len (N : Nat) (pre : List Nat) : (partB N pre).length = N := by simp [partB]
theorem partB_full (b : List Nat) : partB ((b.length + 7) / 8) b = bytesB b := rfl
theorem partB_getD {N : Nat} (pre : List Nat) {j : Nat} (h : j < N) : (partB N pre).getD j 0 = accB (fun k => pre.getD (8 * j + k) 0) 8 := map_range_getD _ _ _ h
theorem partB_nil (N : Nat) : partB N [] = zerN N := by
  refine getD_ext N (partB_len _ _) (zerN_len _) fun j hj => ?_
  rw [partB_getD _ hj]
  have h := accB_zeros (b := fun k => ([] : List Nat).getD (8 * j + k) 0) (m := 0) (d := 8) (fun k _ => by simp)
  rw [show 0 + 8 = 8 from rfl] at h
  rw [h]
  simp [accB, zerN, hj]
theorem partB_low {N : Nat} {pre : List Nat} (hb : Bits01 pre) (h : pre.length < 8 * N) : (partB N pre).getD (pre.length / 8) 0 = accB (fun k => pre.getD (8 * (pre.length / 8) + k) 0) (pre.length % 8) ∧ (partB N pre).getD (pre.length / 8) 0 < 2 ^ (pre.length % 8) := by
  have hr : pre.length % 8 < 8 := Nat.mod_lt _ (by decide)
  have e : (partB N pre).getD (pre.length / 8) 0 = accB (fun k => pre.getD (8 * (pre.length / 8) + k) 0) (pre.length % 8) := by
    rw [partB_getD _ (by omega)]
    have h := accB_zeros (b := fun k => pre.getD (8 * (pre.length / 8) + k) 0) (m := pre.length % 8) (d := 8 - pre.length % 8) (fun k hk => getD_over (by omega))
    rw [show pre.length % 8 + (8 - pre.length % 8) = 8 by omega] at h
    exact h
  refine ⟨e, ?_⟩
  rw [e]
  exact accB_lt fun j _ => hb _
theorem partB_snoc {N : Nat} {pre : List Nat} (x : Nat) (hb : Bits01 pre) (h : pre.length < 8 * N) :
    partB N (pre ++ [x]) = (partB N pre).set (pre.length / 8) ((partB N pre).getD (pre.length / 8) 0 ||| x * 2 ^ (pre.length % 8)) := by
  obtain ⟨e1, e2⟩ := partB_low hb h
  rw [or_add _ _ _ e2, e1]
  refine getD_ext N (partB_len _ _) (by rw [List.length_set, partB_len]) fun j hj => ?_
  rw [getD_set _ _ _ _ (by rw [partB_len]; omega), partB_getD _ hj]
  by_cases ej : pre.length / 8 = j
  · rw [if_pos ej]
    subst ej
    have hz := accB_zeros (b := fun k => (pre ++ [x]).getD (8 * (pre.length / 8) + k) 0) (m := pre.length % 8 + 1) (d := 8 - (pre.length % 8 + 1)) (fun k hk => getD_over (by rw [List.length_append, List.length_singleton]; omega))
    have hr : pre.length % 8 < 8 := Nat.mod_lt _ (by decide)
    rw [show pre.length % 8 + 1 + (8 - (pre.length % 8 + 1)) = 8 by omega] at hz
    rw [hz]
    show accB _ (pre.length % 8) + (pre ++ [x]).getD (8 * (pre.length / 8) + pre.length % 8) 0 * 2 ^ (pre.length % 8) = _
    congr 1
    · exact accB_congr fun k hk => by rw [getD_app, if_pos (by omega)]
    · rw [getD_app, if_neg (by omega), show 8 * (pre.length / 8) + pre.length % 8 - pre.length = 0 by omega]
      rfl
  · rw [if_neg ej, partB_getD _ hj]
    refine accB_congr fun k hk => ?_
    rw [getD_app]
    split
    · rfl
    · rename_i hge
      rw [getD_over (l := [x]) (by simp; omega), getD_over (l := pre) (by omega)]
theorem partB_bys {N : Nat} {pre : List Nat} (hb : Bits01 pre) : Bys (partB N pre) := fun j => by
  by_cases hj : j < N
  · rw [partB_getD _ hj]; exact accB_lt fun k _ => hb _
  · rw [getD_over (by rw [partB_len]; omega)]; decide
/-! ### the number of what is left -/
theorem accB_pos {b : Nat → Nat} : ∀ {k : Nat}, accB b k ≠ 0 → ∃ i, i < k ∧ b i ≠ 0
  | 0, h => absurd rfl h
  | k + 1, h => by
    by_cases h0 : b k = 0
    · simp only [accB, h0] at h
      obtain ⟨i, hi, hb⟩ := accB_pos (b := b) (k := k) (by simpa using h)
      exact ⟨i, by omega, hb⟩
    · exact ⟨k, by omega, h0⟩
theorem accB_pos_of {b : Nat → Nat} : ∀ {k : Nat} {i : Nat}, i < k → b i ≠ 0 → accB b k ≠ 0
  | 0, _, h, _ => by omega
  | k + 1, i, h, hb => by
    simp only [accB]
    by_cases e : i = k
    · subst e
      have := Nat.mul_pos (Nat.pos_of_ne_zero hb) (Nat.two_pow_pos i)
      omega
    · have := accB_pos_of (b := b) (k := k) (i := i) (by omega) hb
      omega
/-- fewer than eight bits are left, and their number is not 0: one is 1 -/
theorem endP_few {s : List Nat} {p : Nat} (hp : p ≤ 8 * s.length) (h : 8 * s.length - p < 8) : endP s p = if numB s p (8 * s.length - p) = 0 then 0 else 42 := by
  unfold endP
  rw [if_neg (by omega)]
  by_cases h0 : numB s p (8 * s.length - p) = 0
  · rw [if_pos h0, if_neg]
    rintro ⟨i, h1, h2, h3⟩
    refine accB_pos_of (b := fun j => bitAt s (p + j)) (k := 8 * s.length - p) (i := i - p) (by omega) ?_ h0
    show bitAt s (p + (i - p)) ≠ 0
    rw [show p + (i - p) = i by omega, h3]
    decide
  · rw [if_neg h0, if_pos]
    obtain ⟨i, hi, hb⟩ := accB_pos h0
    exact ⟨p + i, by omega, by omega, by have := bitAt_lt s (p + i); omega⟩
theorem endP_many {s : List Nat} {p : Nat} (h : 8 ≤ 8 * s.length - p) : endP s p = 42 := by unfold endP; rw [if_pos h]
end Go.Proofs.Ytloogjdojojehaa
namespace Go.Proofs.Ytloogjdojojehaa
open Go.RowKit Go.Shelf
set_option linter.unusedVariables false

attribute [local go_sem] Oper.semAt_some

theorem bits01_fin (l : List (Fin 2)) : Bits01 (l.map (·.val)) := fun j => by
  rw [List.getD_eq_getElem?_getD, List.getElem?_map]
  cases l[j]? with
  | none => decide
  | some x => exact x.isLt
/-- a bit is put in its place -/
theorem put_bit (N : Nat) (pre : List (Fin 2)) (x : Fin 2) (h : pre.length < 8 * N) :
    ∃ b y : Nat, (partB N (pre.map (·.val))).getD (pre.length / 8) 0 = b ∧ partB N ((pre ++ [x]).map (·.val)) = (partB N (pre.map (·.val))).set (pre.length / 8) y ∧
      (x.val : Int) * 2 ^ (pre.length % 8) = ((x.val * 2 ^ (pre.length % 8) : Nat) : Int) ∧ x.val * 2 ^ (pre.length % 8) < 256 ∧ bits .or .u8 (b : Int) ((x.val * 2 ^ (pre.length % 8) : Nat) : Int) = (y : Int) := by
  have hb := bits01_fin pre
  have hl : (pre.map (·.val)).length = pre.length := by simp
  have hs := partB_snoc (N := N) x.val hb (by rw [hl]; exact h)
  rw [hl] at hs
  have hlt : x.val * 2 ^ (pre.length % 8) < 256 := by
    have h1 : x.val * 2 ^ (pre.length % 8) ≤ 1 * 2 ^ 7 := Nat.mul_le_mul (by have := x.isLt; omega) (Nat.pow_le_pow_right (by decide) (by omega))
    omega
  refine ⟨_, _, rfl, by rw [List.map_append]; exact hs, by simp, hlt, ?_⟩
  exact or_byte _ _ (partB_bys hb _) hlt
theorem make_bytes (n : Nat) (h : n ≤ 1000000000) (w : World) : (Instr.makeSlice 60 (.int .i64 (n : Int)) (.int .i64 (n : Int))).run Try.prog w = .ok (.slice (some ⟨w.heap.size, 0, none⟩) n n) (w.alloc (.cells (ints .u8 (nn (zerN n))).toArray 5)) := by
  obtain ⟨i0, hi0, hz0, hz1, hz2⟩ := info_parts info_u8
  have hr := run_make (P := Try.prog) w 60 5 i0 (.int .u8 0) Try.underlying60 hi0 hz0 .i64 .i64 n n (by omega) (Int.le_refl _) (by rw [hz2]; omega) (by omega)
  simp only [Int.toNat_natCast, hz1, Nat.mul_one] at hr
  have e : madeCells (Value.int .u8 0).cells n = (ints .u8 (nn (zerN n))).toArray := by
    apply Array.ext'
    rw [show (Value.int .u8 0).cells = #[.int .u8 0] from rfl, toList_madeCells_one]
    simp [ints, nn, zerN]
  rw [hr, e]
end Go.Proofs.Ytloogjdojojehaa
namespace Go.Proofs.Ytloogjdojojehaa
open Go.RowKit
set_option linter.unusedVariables false

theorem or_u32 (a b : Nat) (ha : a < 4294967296) (hb : b < 4294967296) : bits .or .u32 (a : Int) (b : Int) = ((a ||| b : Nat) : Int) :=
  (bits_nat .u32 32 (by decide) (fun n h0 h1 => by rw [IntKind.wrap_u32]; omega) a b ha hb).2
theorem wrapsJ_u32 (n : Int) (h0 : 0 ≤ n) (h1 : n < 4294967296) : IntKind.u32.wrap n = n := by rw [IntKind.wrap_u32]; omega
/-- all is as it was but the block R, which has these cells -/
def Turned (w w' : World) (R : Nat) (t : TypeId) (vs : List Value) : Prop := w.grownBy w' (some R) ∧ Blk w' R t vs
theorem Turned.of_below {w w' : World} {R : Nat} {t : TypeId} {vs : List Value} (h : Below w.heap.size w w') (hR : Blk w R t vs) : Turned w w' R t vs := ⟨(grown_below h).but (some R), hR.below h hR.lt⟩
theorem Turned.set {w w' : World} {R : Nat} {t : TypeId} {vs : List Value} (h : Below w.heap.size w w') (hR : Blk w R t vs) (j : Nat) (v : Value) : Turned w (w'.setCell ⟨R, j, none⟩ v) R t (vs.set j v) :=
  ⟨((grown_below h).but (some R)).trans (grown_setCell w' ⟨R, j, none⟩ v), (hR.below h hR.lt).set j v⟩
theorem Turned.other {w w' : World} {R : Nat} {t : TypeId} {vs : List Value} (h : Turned w w' R t vs) {b : Nat} {t' : TypeId} {vs' : List Value} (hb : Blk w b t' vs') (hne : b ≠ R) : Blk w' b t' vs' := hb.grown h.1 hne
theorem Turned.below {B : Nat} {a w w' : World} {R : Nat} {t : TypeId} {vs : List Value} (h : Turned w w' R t vs) (hb : Below B a w) (hB : B ≤ w.heap.size) (hR : B ≤ R) : Below B a w' := hb.grown h.1 hB (fun k e => by cases e; exact hR)
theorem Turned.size {w w' : World} {R : Nat} {t : TypeId} {vs : List Value} (h : Turned w w' R t vs) : w.heap.size ≤ w'.heap.size := h.1.size
theorem results_tmp_cell {P : Program} {fn : Func} {p q : Tmp} {ty : TypeId} (h : fn.results = #[.tmp q, .cell p ty]) (tmps : Array Value) (w : World) (g : Nat)
    (hp : tmps.getD p undef = .pointer (some ⟨g, 0, none⟩)) (v : Value) (hq : tmps.getD q undef = v) {x : Value} {d : TypeDesc} (hc : w.cell? ⟨g, 0, none⟩ = some x)
    (hu : P.underlying ty = some d) (hd : d.isRow = false) : (results fn tmps).run P w = .ok (.tuple #[v, x]) w := by
  have hp' : tmps[p]?.getD undef = .pointer (some ⟨g, 0, none⟩) := by simpa using hp
  have hq' : tmps[q]?.getD undef = v := by simpa using hq
  simp [results, h, hp', hq', asAddr, run_loadVar_one w _ ty x d hc hu hd]
theorem mkf (fn : Fn) (first cap : Array Value) (w : World) : (Instr.makeFunc fn first cap).run Try.prog w = .ok (.func fn first cap) w := rfl
end Go.Proofs.Ytloogjdojojehaa
namespace Go.Proofs.Ytloogjdojojehaa
open Go.RowKit
set_option linter.unusedVariables false

theorem rdr_one (s : ByteArray) (p : Nat) : (rdr s p).toArray.all (·.oneCell') = true := by simp [rdr, Value.oneCell']
end Go.Proofs.Ytloogjdojojehaa
namespace Go.Proofs.Ytloogjdojojehaa
open Go.ChangeShapes Go.WideShapes Go.ChangeAt Go.RowKit
set_option linter.unusedVariables false

theorem nat_pieces : ∀ (l : List (Int × Int)), (∀ q ∈ l, (Lit.int .u32 q.1).wf = true ∧ (Lit.int .i64 q.2).wf = true) → ∃ m : List (Nat × Int), m.length = l.length ∧ (l.map fun q => [Value.int .u32 q.1, Value.int .i64 q.2]) = rowsP m ∧ ∀ q ∈ m, q.1 < 4294967296
  | [], _ => ⟨[], rfl, rfl, fun q h => by cases h⟩
  | q :: l, h => by
    obtain ⟨m, h1, h2, h3⟩ := nat_pieces l (fun q hq => h q (by simp [hq]))
    obtain ⟨n, e, hn⟩ := nat_u32 q.1 (h q (by simp)).1
    refine ⟨(n, q.2) :: m, by simp [h1], ?_, fun r hr => ?_⟩
    · have e2 : rowsP ((n, q.2) :: m) = rowP (n, q.2) :: rowsP m := rfl
      rw [List.map_cons, h2, e2, e]
      rfl
    · rcases List.mem_cons.1 hr with rfl | hr
      · exact hn
      · exact h3 r hr
section
variable {H : Type} {enc : TypeId × Value → H} {w : World} {base : Nat} {spare : Nat → Bool} {held : Bool}
/-- numbers as rows -/
def rowsI (l : List Int) : List (List Value) := l.map fun n => [.int .i64 n]
theorem open_ilist {p0 : Option Addr} {len cap : Nat} {d : DataW H} {p : List MemPlace} (h : DataW.Trod enc Try.prog w base spare held 28 (.slice p0 len cap) d p) :
    ∃ l : List Int, l.length = len ∧ Sl w 1 (.slice p0 len cap) (rowsI l) ∧ ∀ q ∈ l, (Lit.int .i64 q).wf = true := by
  obtain ⟨l, h1, h2, h3, h4⟩ := open_nums Try.underlying28 Try.underlying3 (by kernel_rfl) h
  exact ⟨l, h1, h2, h3⟩
end
end Go.Proofs.Ytloogjdojojehaa
namespace Go.Proofs.Ytloogjdojojehaa
open Go.RowKit Go.Shelf
set_option linter.unusedVariables false

/-- rows in a block of their own, as a slice -/
theorem sl_blk {w : World} {b k cap : Nat} {t : TypeId} {rows : List (List Value)} (hk : ∀ r ∈ rows, r.length = k) (h : Blk w b t rows.flatten) : Sl w k (.slice (some ⟨b, 0, none⟩) rows.length cap) rows := by
  refine ⟨hk, _, cap, rfl, fun i r hr => ⟨_, rfl, h.lt, fun j x hx => ?_⟩⟩
  rw [Addr.add_mid, h.cell]
  have := flat_at hk hr hx
  simpa using this
theorem pack_shown : tx (bytesB (bitsP [(1, 1), (2, 3)])) = ⟨#[5]⟩ := by
  have : bytesB (bitsP [(1, 1), (2, 3)]) = [5] := by decide
  rw [this]; rfl
end Go.Proofs.Ytloogjdojojehaa
namespace Go.Proofs.Ytloogjdojojehaa
open Go.RowKit
set_option linter.unusedVariables false

theorem endP_step {s : List Nat} {p j : Nat} (hp : p ≤ j) (hj : j < 8 * s.length) (h8 : 8 * s.length - p < 8) (hz : ∀ i, p ≤ i → i < j → bitAt s i ≠ 1) (h1 : bitAt s j = 1) : endP s p = 42 := by
  unfold endP
  rw [if_neg (by omega), if_pos ⟨j, hj, hp, h1⟩]
theorem endP_none {s : List Nat} {p : Nat} (h8 : 8 * s.length - p < 8) (hz : ∀ i, p ≤ i → i < 8 * s.length → bitAt s i ≠ 1) : endP s p = 0 := by
  unfold endP
  rw [if_neg (by omega), if_neg]
  rintro ⟨i, h1, h2, h3⟩
  exact hz i h2 h1 h3
end Go.Proofs.Ytloogjdojojehaa
