/- Byte strings out of byte rows, and back: small laws for walks. -/
import Derived.Test.YtadppbjchacjiaaBlk
import Derived.Deep.MidRow
namespace Go.Proofs.Ytadppbjchacjiaa
open Go.RowKit
set_option linter.unusedVariables false

theorem ints_app (k : IntKind) (a b : List Int) : ints k (a ++ b) = ints k a ++ ints k b := by simp [ints]
theorem Blk.range {w : World} {b : Nat} {t : TypeId} {x y z : List Value} (h : Blk w b t (x ++ y ++ z)) : w.rangeAt b x.length y := by
  intro j v hv
  rw [h.cell, List.append_assoc, List.getElem?_append_right (by omega)]
  have hj : j < y.length := by
    rcases Nat.lt_or_ge j y.length with h' | h'
    · exact h'
    · rw [List.getElem?_eq_none h'] at hv; cases hv
  rw [show x.length + j - x.length = j by omega, List.getElem?_append_left hj]
  exact hv

/-- the string of these bytes -/
def bs (l : List Int) : ByteArray := ⟨(l.map fun n => UInt8.ofNat n.toNat).toArray⟩
theorem bs_size (l : List Int) : (bs l).size = l.length := by simp [bs, ByteArray.size]
theorem bs_fold (l : List Int) : l.foldl (fun (r : ByteArray) n => r.push (UInt8.ofNat n.toNat)) ByteArray.empty = bs l := by
  have : ∀ (l : List Int) (r : ByteArray), l.foldl (fun (r : ByteArray) n => r.push (UInt8.ofNat n.toNat)) r = ⟨r.data ++ (l.map fun n => UInt8.ofNat n.toNat).toArray⟩ := by
    intro l
    induction l with
    | nil => intro r; simp
    | cons x l ih =>
      intro r
      rw [List.foldl_cons, ih]
      simp [ByteArray.push]
  rw [this]; simp [bs, ByteArray.empty, ByteArray.emptyWithCapacity]; rfl
/-- its bytes as integers -/
def is (s : ByteArray) : List Int := s.data.toList.map fun b => (b.toNat : Int)
theorem is_length (s : ByteArray) : (is s).length = s.size := by simp [is]
def Octets (l : List Int) : Prop := ∀ n ∈ l, 0 ≤ n ∧ n < 256
theorem is_octets (s : ByteArray) : Octets (is s) := by
  intro n hn
  simp only [is, List.mem_map] at hn
  obtain ⟨b, _, rfl⟩ := hn
  have := b.toNat_lt
  omega
theorem is_bs (l : List Int) (h : Octets l) : is (bs l) = l := by
  simp only [is, bs, List.map_map]
  have : ∀ n ∈ l, ((fun b : UInt8 => (b.toNat : Int)) ∘ fun n : Int => UInt8.ofNat n.toNat) n = n := by
    intro n hn
    obtain ⟨h0, h1⟩ := h n hn
    simp only [Function.comp, UInt8.toNat_ofNat']
    omega
  calc l.map _ = l.map id := List.map_congr_left this
    _ = l := by simp
theorem bs_is (s : ByteArray) : bs (is s) = s := by
  simp only [is, bs, List.map_map]
  have : ((fun n : Int => UInt8.ofNat n.toNat) ∘ fun b : UInt8 => (b.toNat : Int)) = id := by
    funext b; simp
  rw [this]; simp
theorem bs_app (a b : List Int) : bs (a ++ b) = bs a ++ bs b := by
  apply ByteArray.ext
  simp [bs]
theorem is_app (a b : ByteArray) : is (a ++ b) = is a ++ is b := by
  simp [is, ByteArray.data_append]

section
variable {P : Program} {ops : Array Oper} {rest : List Oper} {o : Oper} {a : Act} {w : World} {Q : Exit → Act → World → Prop}
theorem run_bytes_string (src dst e : TypeId) (b n cap : Nat) (l : List Int) (hs : P.underlying src = some (.slice e)) (he : P.underlying e = some (.int .u8)) (hd : P.underlying dst = some .string)
    (hc : w.rangeAt b 0 (ints .u8 l)) (hn : n = l.length) :
    (convert src dst (.slice (some ⟨b, 0, none⟩) n cap)).run P w = .ok (.string (bs l)) w := by
  subst hn
  rw [run_convert_bytes_string w src dst e _ _ _ hs he hd, ← bs_fold]
  refine run_bytesToString w ⟨b, 0, none⟩ l.length cap l ?_
  have := run_loadCells_list (P := P) w ⟨b, 0, none⟩ (ints .u8 l) (fun j v hv => by rw [Addr.add_mid]; exact hc j v hv)
  simpa [ints] using this
theorem wpList_bytes_string (hgd : o.guard = none) (src dst e : TypeId) (x : Operand) (ho : o.op = .convert src dst x) (b n cap : Nat) (l : List Int)
    (hx : a.eval x = .slice (some ⟨b, 0, none⟩) n cap) (hs : P.underlying src = some (.slice e)) (he : P.underlying e = some (.int .u8)) (hd : P.underlying dst = some .string)
    (hc : w.rangeAt b 0 (ints .u8 l)) (hn : n = l.length) (h : wpList P ops Q rest (a.put o.dst (.string (bs l))) w) : wpList P ops Q (o :: rest) a w :=
  wpList_plain hgd fun _ hK => by
    unfold Oper.wp execOp
    simp only [ho, hx, Sem.run_bind, run_bytes_string (P := P) (w := w) src dst e b n cap l hs he hd hc hn, Result.andThen_ok]
    exact hK _ _ h
end
end Go.Proofs.Ytadppbjchacjiaa
