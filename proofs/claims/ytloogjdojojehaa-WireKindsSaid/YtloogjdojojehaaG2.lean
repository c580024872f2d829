/- Facts of this seat's program that its texts share: those that ask for few texts. -/
import Derived.Test.YtloogjdojojehaaRows
import Derived.Test.YtloogjdojojehaaG1
import Derived.WalkKit
import Derived.ProofKit
import Derived.ChangeOld
import Derived.Below
import Derived.OpenShut
namespace Go.Proofs.Ytloogjdojojehaa
open Go.RowKit
set_option linter.unusedVariables false

theorem mixed : Try.prog.follows .mixedOrders = true := by kernel_rfl
/-- the class of the worlds that are as w0 was, but for new blocks -/
def NewBut (w0 w : World) : Prop := Below w0.heap.size w0 w
theorem size_u8 : (Try.prog.info? 5).map (·.size) = some 1 := by kernel_rfl
theorem info_u8 : (Try.prog.info? 5).map (fun i => (i.zero, i.size, i.bytes)) = some (some (.int .u8 0), 1, 1) := by kernel_rfl
theorem size_hash : (Try.prog.info? 34).map (·.size) = some 32 := by kernel_rfl
theorem size_u32 : (Try.prog.info? 22).map (·.size) = some 1 := by kernel_rfl
theorem sizeOf_u8 (w : World) : (sizeOf 5).run Try.prog w = .ok 1 w := by kernel_rfl
end Go.Proofs.Ytloogjdojojehaa
namespace Go.Proofs.Ytloogjdojojehaa
open Go.RowKit
set_option linter.unusedVariables false

theorem own : ownKnob Try.prog.godebug = none := by kernel_rfl
theorem laidOut : laidOutB Try.prog = true := by kernel_rfl
theorem cells_u8 : Try.prog.cellsOf 5 = 1 := by kernel_rfl
theorem index_sl (s : ByteArray) (kk : IntKind) (j : Nat) (hj : j < s.size) (w : World) :
    (Instr.index 9 (.string s) (.int kk (j : Int))).run Try.prog w = .ok (.int .u8 (((sl s).getD j 0 : Nat) : Int)) w := by
  have hv : s.data.toList[j]? = some (s.data.toList[j]'(by simpa using hj)) := List.getElem?_eq_getElem _
  have hg : (sl s).getD j 0 = (s.get j hj).toNat := by
    unfold sl
    rw [List.getD_eq_getElem?_getD, List.getElem?_map, hv]
    rfl
  rw [hg]
  simp [Instr.index, asIntOf, Sem.run_bind, run_underlying Try.underlying9 w, hj]
  rfl
end Go.Proofs.Ytloogjdojojehaa
namespace Go.Proofs.Ytloogjdojojehaa
open Go.ChangeShapes Go.WideShapes Go.ChangeAt Go.RowKit
set_option linter.unusedVariables false

/-- an array of integers by value, opened -/
theorem open_ints {H : Type} {enc : TypeId × Value → H} {P : Program} {w : World} {base : Nat} {spare : Nat → Bool} {held : Bool} {t e : TypeId} {n : Nat} {v : Value} {d : DataW H} {p : List MemPlace} {kd : IntKind}
    (ht : P.underlying t = some (.array n e)) (he : P.underlying e = some (.int kd)) (hce : P.cellsOf e = 1) (hct : P.cellsOf t = n) (cs : Array Value) (hv : v = .agg cs)
    (h : DataW.Trod enc P w base spare held t v d p) : ∃ l : List Int, v = .agg (ints kd l).toArray ∧ l.length = n ∧ ∀ x ∈ l, (Lit.int kd x).wf = true := by
  subst hv
  obtain ⟨fuel, hf⟩ := h
  have hcells : (Value.agg cs).cells.toList = cs.toList := rfl
  rw [hcells] at hf
  obtain ⟨xs, m, _, _, hl, hxl, hall⟩ := DataW.trod_array ht hf
  rw [hct] at hl
  have hint : ∀ i (hi : i < n), ∃ k : Int, cs.toList[i]? = some (.int kd k) ∧ (Lit.int kd k).wf = true := by
    intro i hi
    have h1 := hall i hi
    rw [hce, Nat.mul_one] at h1
    obtain ⟨x, hx⟩ : ∃ x, xs[i]? = some x := ⟨_, List.getElem?_eq_getElem (by omega)⟩
    rw [hx] at h1
    obtain ⟨k, e1, _, wk⟩ := DataW.trod_int he h1
    refine ⟨k, ?_, wk⟩
    have h2 : ((cs.toList.drop i).take 1)[0]? = some (.int kd k) := by rw [e1]; rfl
    simpa using h2
  refine ⟨cs.toList.map intOf, ?_, by simpa using hl, ?_⟩
  · congr 1
    apply Array.ext'
    apply List.ext_getElem?
    intro i
    by_cases hi : i < n
    · obtain ⟨k, hk, _⟩ := hint i hi
      simp only [ints, List.map_map, List.getElem?_map]
      rw [hk]; rfl
    · rw [List.getElem?_eq_none (by omega), List.getElem?_eq_none (by simp [ints]; simpa using (by omega : cs.toList.length ≤ i))]
  · intro x hx
    simp only [List.mem_map] at hx
    obtain ⟨u, hu, rfl⟩ := hx
    obtain ⟨i, hi, rfl⟩ := List.getElem_of_mem hu
    obtain ⟨k, hk, hb⟩ := hint i (by omega)
    rw [List.getElem?_eq_getElem hi] at hk
    have e : cs.toList[i] = .int kd k := by simpa using hk
    rw [e]
    exact hb
theorem nn_of (l : List Int) (h : ∀ x ∈ l, 0 ≤ x) : ∃ m : List Nat, l = nn m ∧ m.length = l.length ∧ ∀ j, (m.getD j 0 : Int) = l.getD j 0 := by
  have e : l = nn (l.map Int.toNat) := by
    unfold nn
    rw [List.map_map]
    have : ∀ x ∈ l, ((fun n : Nat => (n : Int)) ∘ Int.toNat) x = id x := fun x hx => by
      have := h x hx
      simp only [Function.comp, id]
      omega
    rw [List.map_congr_left this, List.map_id]
  refine ⟨l.map Int.toNat, e, by simp, fun j => ?_⟩
  conv => rhs; rw [e]
  rw [nn_getD]
theorem open_bys {H : Type} {enc : TypeId × Value → H} {P : Program} {w : World} {base : Nat} {spare : Nat → Bool} {held : Bool} {t e : TypeId} {n : Nat} {v : Value} {d : DataW H} {p : List MemPlace}
    (ht : P.underlying t = some (.array n e)) (he : P.underlying e = some (.int .u8)) (hce : P.cellsOf e = 1) (hct : P.cellsOf t = n) (cs : Array Value) (hv : v = .agg cs)
    (h : DataW.Trod enc P w base spare held t v d p) : ∃ l : List Nat, v = .agg (ints .u8 (nn l)).toArray ∧ l.length = n ∧ Bys l := by
  obtain ⟨l, h1, h2, h3⟩ := open_ints ht he hce hct cs hv h
  obtain ⟨m, e1, e2, e3⟩ := nn_of l (fun x hx => (bounds_u8 (h3 x hx)).1)
  refine ⟨m, by rw [h1, e1], by omega, fun j => ?_⟩
  have hj := e3 j
  rcases Nat.lt_or_ge j l.length with hl | hl
  · have hb := bounds_u8 (h3 (l.getD j 0) (by rw [List.getD_eq_getElem?_getD, List.getElem?_eq_getElem hl]; exact List.getElem_mem _))
    omega
  · rw [List.getD_eq_getElem?_getD, List.getElem?_eq_none (by omega)]; decide
theorem open_words {H : Type} {enc : TypeId × Value → H} {P : Program} {w : World} {base : Nat} {spare : Nat → Bool} {held : Bool} {t e : TypeId} {n : Nat} {v : Value} {d : DataW H} {p : List MemPlace}
    (ht : P.underlying t = some (.array n e)) (he : P.underlying e = some (.int .u32)) (hce : P.cellsOf e = 1) (hct : P.cellsOf t = n) (cs : Array Value) (hv : v = .agg cs)
    (h : DataW.Trod enc P w base spare held t v d p) : ∃ l : List Nat, v = .agg (ints .u32 (nn l)).toArray ∧ l.length = n ∧ ∀ j, l.getD j 0 < 4294967296 := by
  obtain ⟨l, h1, h2, h3⟩ := open_ints ht he hce hct cs hv h
  obtain ⟨m, e1, e2, e3⟩ := nn_of l (fun x hx => (bounds_u32 (h3 x hx)).1)
  refine ⟨m, by rw [h1, e1], by omega, fun j => ?_⟩
  have hj := e3 j
  rcases Nat.lt_or_ge j l.length with hl | hl
  · have hb := bounds_u32 (h3 (l.getD j 0) (by rw [List.getD_eq_getElem?_getD, List.getElem?_eq_getElem hl]; exact List.getElem_mem _))
    omega
  · rw [List.getD_eq_getElem?_getD, List.getElem?_eq_none (by omega)]; decide
end Go.Proofs.Ytloogjdojojehaa
