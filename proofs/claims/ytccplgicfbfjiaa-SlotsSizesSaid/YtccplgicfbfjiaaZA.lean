/- The sort of a map's whole-number keys, at this program: the library's contracts, their conditions paid one by one. -/
import Derived.Test.YtccplgicfbfjiaaProg
import Derived.Shelf.SlIterI.Nil
import Derived.Shelf.SortM.Plain
import Derived.Shelf.SortM.SortNone
import Derived.Ground.GgzProg
import Derived.Ground.SlgmProg
import Derived.Test.YtccplgicfbfjiaaJ1
import Derived.Test.YtccplgicfbfjiaaZ0
import Derived.Maps.OwnSet
import Derived.Test.YtccplgicfbfjiaaG1
import Derived.Laws.CopyRow
namespace Go.Proofs.Ytccplgicfbfjiaa
open Go.RowKit Go.Maps Go.Sort Go.Shelf
set_option linter.unusedVariables false

def keysA_ren : Go.Shelf.Ren := ⟨fun | 7 => 21 | 10 => 42 | n => n, fun | 23 => 43 | 26 => 3 | 3 => 42 | 28 => 61 | 0 => 0 | 27 => 60 | 33 => 44 | 4 => 4 | n => n, fun | n => n⟩
theorem keysA : Go.Proofs.SlLaysZI.n7 Try.prog keysA_ren where
  mixed := by kernel_rfl
  f7 := ⟨ "maps.Keys[map[int][]hanaper/disk.sector,int,[]hanaper/disk.sector]", by decide, Try.func21.trans (congrArg some (by kernel_rfl))⟩
  f10 := ⟨ "maps.Keys[map[int][]hanaper/disk.sector,int,[]hanaper/disk.sector]$1", by decide, Try.func42.trans (congrArg some (by kernel_rfl))⟩
  t0 := Try.underlying0
  a0 := Try.isAgg0
  z0 := Try.sizeOf0
  v0 := Try.zeroValue0
  t4 := Try.underlying4
  a4 := Try.isAgg4
  z4 := Try.sizeOf4
  v4 := Try.zeroValue4
  t23 := Try.underlying43
  a23 := Try.isAgg43
  z23 := Try.sizeOf43
  v23 := Try.zeroValue43
  t26 := Try.underlying3
  a26 := Try.isAgg3
  z26 := Try.sizeOf3
  v26 := Try.zeroValue3
  t27 := Try.underlying60
  a27 := Try.isAgg60
  z27 := Try.sizeOf60
  v27 := Try.zeroValue60
  t28 := Try.underlying61
  a28 := Try.isAgg61
  z28 := Try.sizeOf61
  v28 := Try.zeroValue61
  t33 := Try.underlying44
  a33 := Try.isAgg44
  z33 := Try.sizeOf44
  v33 := Try.zeroValue44
def sortedA_ren : Go.Shelf.Ren := ⟨fun | 6 => 20 | 8 => 40 | 9 => 41 | 11 => 58 | 13 => 60 | 12 => 59 | 23 => 79 | 24 => 80 | 14 => 70 | 15 => 71 | 16 => 72 | 17 => 73 | 18 => 74 | 19 => 75 | 20 => 76 | 21 => 77 | 22 => 78 | 25 => 88 | 26 => 89 | 27 => 90 | 28 => 91 | 29 => 92 | 30 => 93 | 31 => 95 | n => n, fun | 26 => 3 | 28 => 61 | 24 => 58 | 0 => 0 | 3 => 3 | 37 => 104 | 48 => 95 | 50 => 28 | 4 => 4 | 40 => 117 | 39 => 116 | 45 => 122 | 5 => 5 | 9 => 9 | 51 => 133 | 55 => 137 | 57 => 140 | 58 => 141 | 33 => 44 | n => n, fun | n => n⟩
theorem sortedA : Go.Proofs.SlLaysZI.n6 Try.prog sortedA_ren where
  mixed := by kernel_rfl
  f6 := ⟨ "slices.Sorted[int]", by decide, Try.func20.trans (congrArg some (by kernel_rfl))⟩
  f8 := ⟨ "slices.Collect[int]", by decide, Try.func40.trans (congrArg some (by kernel_rfl))⟩
  f11 := ⟨ "slices.AppendSeq[[]int,int]", by decide, Try.func58.trans (congrArg some (by kernel_rfl))⟩
  t0 := Try.underlying0
  a0 := Try.isAgg0
  z0 := Try.sizeOf0
  v0 := Try.zeroValue0
  t24 := Try.underlying58
  a24 := Try.isAgg58
  z24 := Try.sizeOf58
  v24 := Try.zeroValue58
  t26 := Try.underlying3
  a26 := Try.isAgg3
  z26 := Try.sizeOf3
  v26 := Try.zeroValue3
  t28 := Try.underlying61
  a28 := Try.isAgg61
  z28 := Try.sizeOf61
  v28 := Try.zeroValue61
  i26 := by kernel_rfl
def sortA_ren : Go.Shelf.Ren := ⟨fun | 5 => 41 | 8 => 60 | 7 => 59 | 19 => 79 | 20 => 80 | 10 => 70 | 11 => 71 | 12 => 72 | 13 => 73 | 14 => 74 | 15 => 75 | 16 => 76 | 17 => 77 | 18 => 78 | 30 => 88 | 31 => 89 | 32 => 90 | 33 => 91 | 34 => 92 | 35 => 93 | 40 => 95 | n => n, fun | 23 => 58 | 25 => 3 | 3 => 3 | 32 => 104 | 22 => 58 | 0 => 0 | 44 => 95 | 46 => 28 | 4 => 4 | 36 => 117 | 35 => 116 | 41 => 122 | 5 => 5 | 9 => 9 | 53 => 133 | 57 => 137 | 63 => 140 | 64 => 141 | n => n, fun | n => n⟩
theorem sortA : Go.Proofs.SlLaysM.n5 Try.prog sortA_ren where
  mixed := by kernel_rfl
  f5 := ⟨ "slices.Sort[[]int,int]", by decide, Try.func41.trans (congrArg some (by kernel_rfl))⟩
  f7 := ⟨ "slices.pdqsortOrdered[int]", by decide, Try.func59.trans (congrArg some (by kernel_rfl))⟩
  f8 := Try.func60.trans (congrArg some (by kernel_rfl))
  f10 := ⟨ "slices.insertionSortOrdered[int]", by decide, Try.func70.trans (congrArg some (by kernel_rfl))⟩
  f11 := ⟨ "slices.heapSortOrdered[int]", by decide, Try.func71.trans (congrArg some (by kernel_rfl))⟩
  f12 := ⟨ "slices.breakPatternsOrdered[int]", by decide, Try.func72.trans (congrArg some (by kernel_rfl))⟩
  f13 := ⟨ "slices.choosePivotOrdered[int]", by decide, Try.func73.trans (congrArg some (by kernel_rfl))⟩
  f14 := ⟨ "slices.reverseRangeOrdered[int]", by decide, Try.func74.trans (congrArg some (by kernel_rfl))⟩
  f15 := ⟨ "slices.partialInsertionSortOrdered[int]", by decide, Try.func75.trans (congrArg some (by kernel_rfl))⟩
  f16 := ⟨ "cmp.Less[int]", by decide, Try.func76.trans (congrArg some (by kernel_rfl))⟩
  f17 := ⟨ "slices.partitionEqualOrdered[int]", by decide, Try.func77.trans (congrArg some (by kernel_rfl))⟩
  f18 := ⟨ "slices.partitionOrdered[int]", by decide, Try.func78.trans (congrArg some (by kernel_rfl))⟩
  f19 := Try.func79.trans (congrArg some (by kernel_rfl))
  f20 := Try.func80.trans (congrArg some (by kernel_rfl))
  f30 := ⟨ "slices.siftDownOrdered[int]", by decide, Try.func88.trans (congrArg some (by kernel_rfl))⟩
  f31 := Try.func89.trans (congrArg some (by kernel_rfl))
  f32 := Try.func90.trans (congrArg some (by kernel_rfl))
  f33 := ⟨ "slices.medianAdjacentOrdered[int]", by decide, Try.func91.trans (congrArg some (by kernel_rfl))⟩
  f34 := ⟨ "slices.medianOrdered[int]", by decide, Try.func92.trans (congrArg some (by kernel_rfl))⟩
  f35 := ⟨ "cmp.isNaN[int]", by decide, Try.func93.trans (congrArg some (by kernel_rfl))⟩
  f40 := ⟨ "slices.order2Ordered[int]", by decide, Try.func95.trans (congrArg some (by kernel_rfl))⟩
  t0 := Try.underlying0
  a0 := Try.isAgg0
  z0 := Try.sizeOf0
  v0 := Try.zeroValue0
  t3 := Try.underlying3
  a3 := Try.isAgg3
  z3 := Try.sizeOf3
  v3 := Try.zeroValue3
  t4 := Try.underlying4
  a4 := Try.isAgg4
  z4 := Try.sizeOf4
  v4 := Try.zeroValue4
  t5 := Try.underlying5
  a5 := Try.isAgg5
  z5 := Try.sizeOf5
  v5 := Try.zeroValue5
  t9 := Try.underlying9
  a9 := Try.isAgg9
  z9 := Try.sizeOf9
  v9 := Try.zeroValue9
  t22 := Try.underlying58
  a22 := Try.isAgg58
  z22 := Try.sizeOf58
  v22 := Try.zeroValue58
  t23 := Try.underlying58
  a23 := Try.isAgg58
  z23 := Try.sizeOf58
  v23 := Try.zeroValue58
  t25 := Try.underlying3
  a25 := Try.isAgg3
  z25 := Try.sizeOf3
  v25 := Try.zeroValue3
  t32 := Try.underlying104
  a32 := Try.isAgg104
  z32 := Try.sizeOf104
  v32 := Try.zeroValue104
  t35 := Try.underlying116
  a35 := Try.isAgg116
  z35 := Try.sizeOf116
  v35 := Try.zeroValue116
  t36 := Try.underlying117
  a36 := Try.isAgg117
  z36 := Try.sizeOf117
  v36 := Try.zeroValue117
  t41 := Try.underlying122
  a41 := Try.isAgg122
  z41 := Try.sizeOf122
  v41 := Try.zeroValue122
  t44 := Try.underlying95
  a44 := Try.isAgg95
  z44 := Try.sizeOf95
  v44 := Try.zeroValue95
  t46 := Try.underlying28
  a46 := Try.isAgg28
  z46 := Try.sizeOf28
  v46 := Try.zeroValue28
  t53 := Try.underlying133
  a53 := Try.isAgg133
  z53 := Try.sizeOf133
  v53 := Try.zeroValue133
  t57 := Try.underlying137
  a57 := Try.isAgg137
  z57 := Try.sizeOf137
  v57 := Try.zeroValue137
  t63 := Try.underlying140
  a63 := Try.isAgg140
  z63 := Try.sizeOf140
  v63 := Try.zeroValue140
  t64 := Try.underlying141
  a64 := Try.isAgg141
  z64 := Try.sizeOf141
  v64 := Try.zeroValue141

theorem sortsA (m : Nat) : AnyZI.SortsIn Try.prog sortedA_ren Fence.wide m :=
  ⟨fun blk off cap ss W hH hblk hsz => callsIn_wide.2 (AnyM.slices_Sort_int sortA blk off cap ss W hH hblk hsz),
   fun p cap W => callsIn_wide.2 (AnyM.slices_Sort_int_none sortA p cap W)⟩
end Go.Proofs.Ytccplgicfbfjiaa
namespace Go.Proofs.Ytccplgicfbfjiaa
open Go.RowKit
open Go.Maps (Keyed int_keyed)
set_option linter.unusedVariables false

/-- a slice of the call's own, as a datum -/
def hdrR (v : Value) : Option (DataW Unit × List MemPlace) :=
  match v with
  | .slice none 0 0 => some (.nil, [])
  | .slice (some ⟨b, 0, none⟩) n c => some (.agg [.lit (.int .i64 (b : Int)), .lit (.int .i64 (n : Int)), .lit (.int .i64 (c : Int))], [])
  | _ => none
def hdr (v : Value) : DataW Unit := match hdrR v with | some z => z.1 | none => .nil
theorem hdr_nil : hdrR (.slice none 0 0) = some (hdr (.slice none 0 0), []) := rfl
theorem hdr_slice (b n c : Nat) : hdrR (.slice (some ⟨b, 0, none⟩) n c) = some (hdr (.slice (some ⟨b, 0, none⟩) n c), []) := rfl
theorem hdrR_inj {v v' : Value} {d : DataW Unit} {ps ps' : List MemPlace} (h : hdrR v = some (d, ps)) (h' : hdrR v' = some (d, ps')) : v = v' := by
  unfold hdrR at h h'
  split at h
  · cases h
    split at h'
    · rfl
    · cases h'
    · cases h'
  · cases h
    split at h'
    · cases h'
    · simp only [Option.some.injEq, Prod.mk.injEq, DataW.agg.injEq, List.cons.injEq, DataW.lit.injEq, Lit.int.injEq, true_and, and_true] at h'
      obtain ⟨⟨h1, h2, h3⟩, _⟩ := h'
      have e1 := Int.ofNat_inj.1 h1
      have e2 := Int.ofNat_inj.1 h2
      have e3 := Int.ofNat_inj.1 h3
      subst e1 e2 e3
      rfl
    · cases h'
  · cases h
theorem hdrR_slice_inv {v : Value} {z : DataW Unit × List MemPlace} (h : hdrR v = some z) : ∃ c : Option Addr × Nat × Nat, v = .slice c.1 c.2.1 c.2.2 := by
  unfold hdrR at h
  split at h
  · exact ⟨⟨none, 0, 0⟩, rfl⟩
  · exact ⟨⟨_, _, _⟩, rfl⟩
  · cases h
def kI (i : Nat) : Lit := .int .i64 (i : Int)
theorem kI_inj {i j : Nat} (h : kI i = kI j) : i = j := by
  unfold kI at h
  simp only [Lit.int.injEq, true_and] at h
  omega
theorem law_int : Keyed Try.prog 3 := int_keyed Try.underlying3
theorem kI_wf {i : Nat} (h : i ≤ 100000) : (kI i).wf = true := wf_small i h
theorem key_atZ {i : Nat} (h : i ≤ 100000) : keyOf Try.prog 3 (.int .i64 (i : Int)) = some (kI i) := Maps.keyOf_int_mk Try.underlying3 (wf_small i h)
/-- what is pending, in memory -/
structure PenW (w : World) (M k : Nat) (D : DataW Unit) (n : Nat) (V : Nat → Value) (pen : List (Nat × List Nat)) : Prop where
  map : w.ownsMap Try.prog 3 hdrR M k D
  att : ∀ (i : Nat) zd, D.atKey (kI i) zd = if penD pen i = [] then zd else hdr (V i)
  has : ∀ i : Nat, Maps.has D (kI i) = decide (penD pen i ≠ [])
  keys : ∀ kl, Maps.has D kl = true → ∃ i, i < n ∧ kl = kI i
  shape : ∀ i, (penD pen i = [] ∧ V i = .slice none 0 0) ∨ (penD pen i ≠ [] ∧ ∃ b c, V i = .slice (some ⟨b, 0, none⟩) (penD pen i).length c)
namespace PenW
variable {w : World} {M k : Nat} {D : DataW Unit} {n : Nat} {V : Nat → Value} {pen : List (Nat × List Nat)}
theorem hdrs (h : PenW w M k D n V pen) (i : Nat) : hdrR (V i) = some (hdr (V i), []) := by
  rcases h.shape i with ⟨_, e⟩ | ⟨_, b, c, e⟩
  · rw [e]; rfl
  · rw [e]; rfl
theorem att0 (h : PenW w M k D n V pen) (i : Nat) : D.atKey (kI i) .nil = hdr (V i) := by
  rw [h.att]
  rcases h.shape i with ⟨e, e2⟩ | ⟨e, _⟩
  · rw [if_pos e, e2]; rfl
  · rw [if_neg e]
theorem isSlice (h : PenW w M k D n V pen) (i : Nat) : ∃ p c, V i = .slice p (penD pen i).length c := by
  rcases h.shape i with ⟨e, e2⟩ | ⟨e, b, c, e2⟩
  · exact ⟨none, 0, by rw [e, e2]; rfl⟩
  · exact ⟨_, c, e2⟩
/-- a look-up -/
theorem look (h : PenW w M k D n V pen) {i : Nat} (hi : i ≤ 100000) : (Instr.lookup 43 (.map (some M)) (.int .i64 (i : Int)) false).run Try.prog w = .ok (V i) w := by
  obtain ⟨v, ps, hrun, hv⟩ := h.map.lookup law_int Try.underlying43 (Try.zeroValue42 w) hdr_nil (key_atZ hi)
  rw [show hdr (.slice none 0 0) = .nil from rfl, h.att0 i] at hv
  rw [hrun, hdrR_inj hv (h.hdrs i)]
theorem same (h : PenW w M k D n V pen) {w' : World} (hM : w'.heap[M]? = w.heap[M]?) : PenW w' M k D n V pen := by
  refine ⟨?_, h.att, h.has, h.keys, h.shape⟩
  obtain ⟨es, clock, hb, F, hs, hD⟩ := h.map
  exact ⟨es, clock, hM.trans hb, F, hs, hD⟩
theorem kept (h : PenW w M k D n V pen) {w' : World} {row : Option Nat} (hg : w.grownBy w' row) (hne : some M ≠ row) : PenW w' M k D n V pen := h.same (hg.block M h.map.lt hne)
end PenW
/-- one more is pending for a sector -/
def updV (V : Nat → Value) (i : Nat) (v : Value) : Nat → Value := fun j => if j = i then v else V j
theorem updV_same (V : Nat → Value) (i : Nat) (v : Value) : updV V i v i = v := if_pos rfl
theorem updV_other (V : Nat → Value) {i j : Nat} (v : Value) (h : j ≠ i) : updV V i v j = V j := if_neg h
theorem PenW.put {w w' : World} {M k : Nat} {D : DataW Unit} {n : Nat} {V : Nat → Value} {pen : List (Nat × List Nat)} (h : PenW w M k D n V pen) {i : Nat} (hi : i < n) {s : List Nat} {b c : Nat} (hm : w'.ownsMap Try.prog 3 hdrR M (k + 1) (D.put (kI i) (hdr (.slice (some ⟨b, 0, none⟩) ((penD pen i).length + 1) c)))) :
    PenW w' M (k + 1) (D.put (kI i) (hdr (.slice (some ⟨b, 0, none⟩) ((penD pen i).length + 1) c))) n (updV V i (.slice (some ⟨b, 0, none⟩) ((penD pen i).length + 1) c)) (pen ++ [(i, s)]) := by
  have hD := h.map.isMap
  have hk : WideAt.IsKeyLit (kI i) := trivial
  have hp : ∀ j, penD (pen ++ [(i, s)]) j = if j = i then penD pen i ++ [s] else penD pen j := fun j => by
    rw [pen_app]
    split
    · rename_i e; subst e; rw [pen_same]
    · rename_i e; rw [pen_other s (fun e' => e e'.symm), List.append_nil]
  refine ⟨hm, fun j zd => ?_, fun j => ?_, fun kl hkl => ?_, fun j => ?_⟩
  · rw [hp]
    by_cases e : j = i
    · subst e
      rw [if_pos rfl, if_neg (by simp), updV_same, Maps.atKey_put_same hD hk]
    · rw [if_neg e, updV_other _ _ e, Maps.atKey_put_other (fun e' => e (kI_inj e'))]
      exact h.att j zd
  · rw [hp]
    by_cases e : j = i
    · subst e
      rw [if_pos rfl, Maps.has_put_same hD hk]
      simp
    · rw [if_neg e, Maps.has_put_other (fun e' => e (kI_inj e'))]
      exact h.has j
  · by_cases e : kl = kI i
    · exact ⟨i, hi, e⟩
    · rw [Maps.has_put_other e] at hkl
      exact h.keys kl hkl
  · rw [hp]
    by_cases e : j = i
    · subst e
      rw [if_pos rfl, updV_same]
      exact .inr ⟨by simp, b, c, by rw [List.length_append]; rfl⟩
    · rw [if_neg e, updV_other _ _ e]
      exact h.shape j
def noVZ (_ : Nat) : Value := .slice none 0 0
theorem PenW.none {w : World} {M n : Nat} (hm : w.ownsMap Try.prog 3 hdrR M 0 (.map [])) : PenW w M 0 (.map []) n noVZ [] :=
  ⟨hm, fun i zd => (if_pos rfl).symm, fun i => rfl, (fun kl h => by cases h), fun i => .inl ⟨rfl, rfl⟩⟩
/-- clear -/
theorem wpList_clear_own {H : Type} {P : Program} (w : World) {ops : Array Oper} {rest : List Oper} {o : Oper} {a : Act} {Q : Exit → Act → World → Prop}
    (hg : o.guard = none) (m : Operand) (t : TypeId) (hop : o.op = Op.call { callee := Callee.builtin Builtin.clear, args := #[m], argTypes := #[t] })
    (k e : TypeId) (ht : P.underlying t = some (.map k e)) (R : Value → Option (DataW H × List MemPlace)) (b n : Nat) (D : DataW H)
    (hm : a.eval m = .map (some b)) (hown : w.ownsMap P k R b n D)
    (hK : ∀ w', w'.ownsMap P k R b 0 (.map []) → w.grownBy w' (some b) → wpList P ops Q rest (a.put o.dst (.tuple #[])) w') : wpList P ops Q (o :: rest) a w := by
  refine wpList_plain hg fun K' hK' => ?_
  obtain ⟨es, clock, hb, F, hs, hD⟩ := hown
  have hrun : (Builtin.clear_ #[t] o.type #[.map (some b)]).run P w = .ok (.tuple #[]) (ChangeMaps.setBlock w b (.map #[] clock)) := by
    simp [Builtin.clear_, run_underlying ht, MapKept.run_getObj_map hb, MapKept.run_setObj_map _ hb, ChangeMaps.setBlock, Result.andThen]
  unfold Oper.wp
  simp [execOp, hop, resolve, invoke, builtin, hm, hrun, Result.andThen]
  exact hK' _ _ (hK _ ⟨#[], clock, ChangeMaps.heap_setBlock_same hb _, ⟨by simp, MapKept.stamped_empty clock, by simp⟩, Nat.le_refl _, rfl⟩ ⟨rfl, rfl, rfl, by simp [ChangeMaps.setBlock], fun i _ hi => ChangeMaps.heap_setBlock_other hb _ (fun e => hi (by rw [e]))⟩)
end Go.Proofs.Ytccplgicfbfjiaa
namespace Go.Proofs.Ytccplgicfbfjiaa
open Go.RowKit
set_option linter.unusedVariables false

/-- a sector as a row -/
def rowB (s : List Nat) : List Value := ints .u8 (nn s)
theorem rowB_len (s : List Nat) : (rowB s).length = s.length := by unfold rowB; rw [ints_length, nn_length]
def rowsB (l : List (List Nat)) : List (List Value) := l.map rowB
theorem rowsB_len (l : List (List Nat)) : (rowsB l).length = l.length := by simp [rowsB]
theorem rowsB_app (a b : List (List Nat)) : rowsB (a ++ b) = rowsB a ++ rowsB b := by simp [rowsB]
theorem rowsB_at {l : List (List Nat)} {j : Nat} (h : j < l.length) : (rowsB l)[j]? = some (rowB (l.getD j [])) := by simp [rowsB, h]
theorem rowsB_each {l : List (List Nat)} (h : ∀ s ∈ l, s.length = 32) : ∀ r ∈ rowsB l, r.length = 32 := fun r hr => by
  obtain ⟨s, hs, rfl⟩ := List.mem_map.1 hr
  rw [rowB_len, h s hs]
theorem rowB_one (s : List Nat) : (rowB s).toArray.all (·.oneCell') = true := ints_one _ _
theorem rowsB_one (l : List (List Nat)) : ∀ r ∈ rowsB l, ∀ u ∈ r, u.oneCell' = true := fun r hr u hu => by
  obtain ⟨s, _, rfl⟩ := List.mem_map.1 hr
  unfold rowB ints at hu
  obtain ⟨x, _, rfl⟩ := List.mem_map.1 hu
  rfl
/-- power, as a value: it lasts, or a cell tells how much is left -/
def pwV : Option (Nat × Int) → Value
  | none => .func (.func 28) #[] #[]
  | some q => .func (.func 43) #[] #[.pointer (some ⟨q.1, 0, none⟩)]
/-- what power there is -/
def pwIs (d : DiskM) : Option (Nat × Int) → Prop
  | none => d.cut = false
  | some q => d.cut = true ∧ (0 < q.2 ↔ 0 < d.rest) ∧ (0 < q.2 → q.2 = d.rest) ∧ (Lit.int .i64 q.2).wf = true
/-- the blocks that are a disk's own -/
def foot (D S M : Nat) (V : Nat → Value) (q : Option (Nat × Int)) (i : Nat) : Prop := i = D ∨ i = S ∨ i = M ∨ q.map (·.1) = some i ∨ ∃ k, (V k).ownBlock = some i
structure DkW (w : World) (base D S M k : Nat) (E : DataW Unit) (V : Nat → Value) (q : Option (Nat × Int)) (d : DiskM) : Prop where
  blk : Blk w D 48 [.slice (some ⟨S, 0, none⟩) d.sec.length d.sec.length, .map (some M), pwV q]
  sec : Blk w S 64 (rowsB d.sec).flatten
  pen : PenW w M k E d.sec.length V d.pen
  len : k = d.pen.length
  own : ∀ i, OwnR w base 64 32 (V i) (rowsB (penD d.pen i))
  apart : ∀ i j b, (V i).ownBlock = some b → (V j).ownBlock = some b → i = j
  offS : ∀ i b, (V i).ownBlock = some b → b ≠ S
  left : ∀ L l, q = some (L, l) → Blk w L 3 [.int .i64 l] ∧ base ≤ L
  pw : pwIs d q
  hD : base ≤ D
  hS : base ≤ S
  hM : base ≤ M
namespace DkW
variable {w w' : World} {base D S M k : Nat} {E : DataW Unit} {V : Nat → Value} {q : Option (Nat × Int)} {d : DiskM}
theorem lt (h : DkW w base D S M k E V q d) : ∀ i, foot D S M V q i → base ≤ i ∧ i < w.heap.size := by
  rintro i (rfl | rfl | rfl | e | ⟨j, e⟩)
  · exact ⟨h.hD, h.blk.lt⟩
  · exact ⟨h.hS, h.sec.lt⟩
  · exact ⟨h.hM, h.pen.map.lt⟩
  · obtain ⟨⟨L, l⟩, e1, e2⟩ := Option.map_eq_some_iff.1 e
    obtain rfl : L = i := e2
    have := h.left _ _ e1
    exact ⟨this.2, this.1.lt⟩
  · exact (h.own j).lt i e
theorem ownSame {B : Nat} {e : TypeId} {n : Nat} {v : Value} {rows : List (List Value)} (h : OwnR w B e n v rows) (hs : ∀ b, v.ownBlock = some b → w'.heap[b]? = w.heap[b]?) : OwnR w' B e n v rows := by
  obtain ⟨h0, h1, h2⟩ := h
  refine ⟨h0, h1, ?_⟩
  rcases h2 with h2 | ⟨g, cap, cur, hv, hg, hh, r⟩
  · exact .inl h2
  · exact .inr ⟨g, cap, cur, hv, hg, (hs g (by rw [hv]; rfl)).trans hh, r⟩
theorem keep (h : DkW w base D S M k E V q d) (hs : ∀ i, foot D S M V q i → w'.heap[i]? = w.heap[i]?) : DkW w' base D S M k E V q d :=
  ⟨(hs D (.inl rfl)).trans h.blk, (hs S (.inr (.inl rfl))).trans h.sec, h.pen.same (hs M (.inr (.inr (.inl rfl)))), h.len, fun i => ownSame (h.own i) fun b e => hs b (.inr (.inr (.inr (.inr ⟨i, e⟩)))), h.apart, h.offS,
    fun L l e => ⟨(hs L (.inr (.inr (.inr (.inl (by rw [e]; rfl)))))).trans (h.left L l e).1, (h.left L l e).2⟩, h.pw, h.hD, h.hS, h.hM⟩
theorem below (h : DkW w base D S M k E V q d) (hb : Below w.heap.size w w') : DkW w' base D S M k E V q d := h.keep fun i hi => hb.block i (h.lt i hi).2
theorem out {F' : Nat → Prop} (h : DkW w base D S M k E V q d) {F : Nat → Prop} (t : Turn base w w' F F') (hF : ∀ i, foot D S M V q i → ¬ F i) : DkW w' base D S M k E V q d := h.keep fun i hi => t.out i (h.lt i hi).2 (hF i hi)
/-- no two of them are one -/
theorem neDS (h : DkW w base D S M k E V q d) : D ≠ S := by
  rintro rfl
  have h1 := h.blk
  have h2 := h.sec
  unfold Blk at h1 h2
  rw [h1] at h2
  simp at h2
theorem neDM (h : DkW w base D S M k E V q d) : D ≠ M := by
  rintro rfl
  obtain ⟨es, clock, hb, _⟩ := h.pen.map
  have h1 := h.blk
  unfold Blk at h1
  rw [h1] at hb
  simp at hb
theorem neSM (h : DkW w base D S M k E V q d) : S ≠ M := by
  rintro rfl
  obtain ⟨es, clock, hb, _⟩ := h.pen.map
  have h1 := h.sec
  unfold Blk at h1
  rw [h1] at hb
  simp at hb
theorem neLD (h : DkW w base D S M k E V q d) {L : Nat} {l : Int} (e : q = some (L, l)) : L ≠ D := by
  rintro rfl
  have h1 := h.blk
  have h2 := (h.left _ _ e).1
  unfold Blk at h1 h2
  rw [h1] at h2
  simp at h2
theorem neLS (h : DkW w base D S M k E V q d) {L : Nat} {l : Int} (e : q = some (L, l)) : L ≠ S := by
  rintro rfl
  have h1 := h.sec
  have h2 := (h.left _ _ e).1
  unfold Blk at h1 h2
  rw [h1] at h2
  simp at h2
theorem neLM (h : DkW w base D S M k E V q d) {L : Nat} {l : Int} (e : q = some (L, l)) : L ≠ M := by
  rintro rfl
  obtain ⟨es, clock, hb, _⟩ := h.pen.map
  have h1 := (h.left _ _ e).1
  unfold Blk at h1
  rw [h1] at hb
  simp at hb
theorem neVD (h : DkW w base D S M k E V q d) {i b : Nat} (e : (V i).ownBlock = some b) : b ≠ D := (h.own i).ne h.blk (by decide) b e
theorem neVL (h : DkW w base D S M k E V q d) {L : Nat} {l : Int} (e : q = some (L, l)) {i b : Nat} (e2 : (V i).ownBlock = some b) : b ≠ L := (h.own i).ne (h.left _ _ e).1 (by decide) b e2
theorem neVM (h : DkW w base D S M k E V q d) {i b : Nat} (e : (V i).ownBlock = some b) : b ≠ M := by
  rintro rfl
  obtain ⟨es, clock, hb, _⟩ := h.pen.map
  rcases (h.own i).2.2 with ⟨hv, _⟩ | ⟨g, cap, cur, hv, hg, hh, r⟩
  · rw [hv] at e; cases e
  · rw [hv] at e
    cases e
    change w.heap[g]? = _ at hb
    rw [hb] at hh
    simp at hh
theorem footV (i : Nat) {b : Nat} (e : (V i).ownBlock = some b) : foot D S M V q b := .inr (.inr (.inr (.inr ⟨i, e⟩)))
theorem footL {L : Nat} {l : Int} (e : q = some (L, l)) : foot D S M V q L := .inr (.inr (.inr (.inl (by rw [e]; rfl))))
/-- the disk's cells -/
theorem c0 (h : DkW w base D S M k E V q d) : w.cell? ⟨D, 0, none⟩ = some (.slice (some ⟨S, 0, none⟩) d.sec.length d.sec.length) := by rw [h.blk.cell]; rfl
theorem c1 (h : DkW w base D S M k E V q d) : w.cell? ⟨D, 1, none⟩ = some (.map (some M)) := by rw [h.blk.cell]; rfl
theorem c2 (h : DkW w base D S M k E V q d) : w.cell? ⟨D, 2, none⟩ = some (pwV q) := by rw [h.blk.cell]; rfl
theorem slS (h : DkW w base D S M k E V q d) (ho : DiskOk d) : Sl w 32 (.slice (some ⟨S, 0, none⟩) d.sec.length d.sec.length) (rowsB d.sec) := by
  have := sl_blkS (cap := d.sec.length) (rest := []) (rowsB_each ho.sec) (by rw [List.append_nil]; exact h.sec)
  rw [rowsB_len] at this
  exact this
end DkW
/-- a disk, with its blocks -/
def DkF (base : Nat) (w : World) (D : Nat) (d : DiskM) (F : Nat → Prop) : Prop := ∃ S M k E V q, DkW w base D S M k E V q d ∧ F = foot D S M V q
theorem DkF.keep {base : Nat} {w w' : World} {D : Nat} {d : DiskM} {F : Nat → Prop} (h : DkF base w D d F) (hs : ∀ i, F i → w'.heap[i]? = w.heap[i]?) : DkF base w' D d F := by
  obtain ⟨S, M, k, E, V, q, h, rfl⟩ := h
  exact ⟨S, M, k, E, V, q, h.keep hs, rfl⟩
theorem DkF.lt {base : Nat} {w : World} {D : Nat} {d : DiskM} {F : Nat → Prop} (h : DkF base w D d F) : ∀ i, F i → base ≤ i ∧ i < w.heap.size := by
  obtain ⟨S, M, k, E, V, q, h, rfl⟩ := h
  exact h.lt
theorem DkF.ptr {base : Nat} {w : World} {D : Nat} {d : DiskM} {F : Nat → Prop} (h : DkF base w D d F) : F D := by
  obtain ⟨S, M, k, E, V, q, h, rfl⟩ := h
  exact .inl rfl
/-! ### the plainest calls -/
theorem d_lasting (w : World) : Calls Try.prog 16 #[] w fun e w' => e = .returned (pwV none) ∧ w' = w := by
  go_enter Try.func16, Try.ntmps16
  go_wp2
  go_ret
  exact ⟨rfl, rfl⟩
theorem d_lasting1 (n : Int) (w : World) : Calls Try.prog 28 #[.int .i64 n] w fun e w' => e = .returned (.bool true) ∧ w' = w := by
  go_enter Try.func28, Try.ntmps28
  go_wp2
  go_ret
  exact ⟨rfl, rfl⟩
theorem d_going (n : Int) (w : World) : Calls Try.prog 26 #[.int .i64 n] w fun e w' => e = .returned (pwV (some (w.heap.size, n))) ∧ w' = w.alloc (.cells #[.int .i64 n] 3) := by
  go_enter Try.func26, Try.ntmps26
  go_wp2
  go_ret
  exact ⟨rfl, rfl⟩
theorem d_going1 (n l : Int) (L : Nat) (b : Bool) (m : Int) (w : World) (hL : Blk w L 3 [.int .i64 l]) (hm : IntKind.i64.wrap (l - n) = m) (hb : decide (0 < m) = b) :
    Calls Try.prog 43 #[.int .i64 n, .pointer (some ⟨L, 0, none⟩)] w fun e w' => e = .returned (.bool b) ∧ w' = w.setCell ⟨L, 0, none⟩ (.int .i64 m) := by
  have c0 := hL.cell 0
  have f0 := hL.free 0
  have c1 := (hL.set 0 (.int .i64 m)).cell 0
  simp only [List.getElem?_cons_zero, List.set_cons_zero] at c0 c1
  have hb' : decide (m > 0) = b := hb
  clear hL
  go_enter Try.func43, Try.ntmps43
  go_wp2
  go_ret
  exact ⟨rfl, rfl⟩
end Go.Proofs.Ytccplgicfbfjiaa
namespace Go.Proofs.Ytccplgicfbfjiaa
open Go.RowKit
set_option linter.unusedVariables false

theorem i64_of {x : Int} (h : (Lit.int .i64 x).wf = true) : -9223372036854775808 ≤ x ∧ x ≤ 9223372036854775807 := by
  have e1 : IntKind.i64.min = -9223372036854775808 := by decide
  have e2 : IntKind.i64.max = 9223372036854775807 := by decide
  simpa [Lit.wf, e1, e2] using h
theorem wf_i64I {x : Int} (h1 : -9223372036854775808 ≤ x) (h2 : x ≤ 9223372036854775807) : (Lit.int .i64 x).wf = true := by
  have e1 : IntKind.i64.min = -9223372036854775808 := by decide
  have e2 : IntKind.i64.max = 9223372036854775807 := by decide
  simp only [Lit.wf, e1, e2, Bool.and_eq_true, decide_eq_true_eq]
  omega
theorem wrap_i64I {x : Int} (h1 : -9223372036854775808 ≤ x) (h2 : x ≤ 9223372036854775807) : IntKind.i64.wrap x = x := by rw [IntKind.wrap_i64]; omega
/-- what is left is told anew -/
theorem DkW.setLeft {w : World} {base D S M k : Nat} {E : DataW Unit} {V : Nat → Value} {L : Nat} {l l' : Int} {d d' : DiskM} (h : DkW w base D S M k E V (some (L, l)) d) (hs : d'.sec = d.sec) (hp : d'.pen = d.pen) (hq : pwIs d' (some (L, l'))) :
    DkW (w.setCell ⟨L, 0, none⟩ (.int .i64 l')) base D S M k E V (some (L, l')) d' ∧ Turn base w (w.setCell ⟨L, 0, none⟩ (.int .i64 l')) (foot D S M V (some (L, l))) (foot D S M V (some (L, l'))) := by
  obtain ⟨hL, hb⟩ := h.left L l rfl
  have hg := grown_setCell w ⟨L, 0, none⟩ (.int .i64 l')
  have ht : Turn base w (w.setCell ⟨L, 0, none⟩ (.int .i64 l')) (foot D S M V (some (L, l))) (foot D S M V (some (L, l'))) :=
    Turn.of_grown hg (by have := hL.lt; omega) (fun b e => by cases e; exact ⟨DkW.footL rfl, hb⟩)
  refine ⟨?_, ht⟩
  have ho : ∀ i, i ≠ L → (w.setCell ⟨L, 0, none⟩ (.int .i64 l')).heap[i]? = w.heap[i]? := fun i hi => Below.heap_setCell _ _ _ i hi
  refine ⟨?_, ?_, ?_, by rw [hp]; exact h.len, fun i => ?_, h.apart, h.offS, fun L' x e => ?_, hq, h.hD, h.hS, h.hM⟩
  · rw [hs]; exact (ho D (fun e => h.neLD rfl e.symm)).trans h.blk
  · rw [hs]; exact (ho S (fun e => h.neLS rfl e.symm)).trans h.sec
  · rw [hs, hp]; exact h.pen.same (ho M (fun e => h.neLM rfl e.symm))
  · rw [hp]; exact DkW.ownSame (h.own i) fun b e => ho b (h.neVL rfl e)
  · cases e
    exact ⟨hL.set 0 _, hb⟩
set_option maxRecDepth 100000 in
theorem d_isOn_some {w : World} {base D S M k : Nat} {E : DataW Unit} {V : Nat → Value} {L : Nat} {l : Int} {d : DiskM} (h : DkW w base D S M k E V (some (L, l)) d) (hw : base ≤ w.heap.size) (b : Bool) (hb : offD d = !b) :
    Calls Try.prog 61 #[ptD D] w fun e w' => e = .returned (.bool b) ∧ DkW w' base D S M k E V (some (L, l)) d ∧ Turn base w w' (foot D S M V (some (L, l))) (foot D S M V (some (L, l))) := by
  have c2 := h.c2
  unfold ptD
  obtain ⟨hc, h1, h2, h3⟩ := h.pw
  have hl := i64_of h3
  have hm : IntKind.i64.wrap (l - 0) = l := by rw [Int.sub_zero]; exact wrap_i64I hl.1 hl.2
  have hbb : decide (0 < l) = b := by
    unfold offD at hb
    rw [hc, Bool.true_and] at hb
    have hd : d.rest ≤ 0 ↔ ¬ 0 < l := by rw [h1]; omega
    cases b
    · have : ¬ 0 < l := hd.1 (by simpa using hb)
      simpa using this
    · have : ¬ ¬ 0 < l := fun e => by
        have := hd.2 e
        simp [this] at hb
      simpa using this
  have hs := h.setLeft (l' := l) (d' := d) rfl rfl h.pw
  have HS := Lib.hid hs
  have HP := Lib.hid (d_going1 0 l L b l w (h.left L l rfl).1 hm hbb)
  unfold pwV at c2
  clear h hc h1 h2 h3 hl hm hbb hs hb
  go_enter Try.func61, Try.ntmps61
  go_wp2_with (go_at_call 43; (with_reducible refine HP.out.mono ?_); rintro e w1 ⟨rfl, rfl⟩)
  go_ret
  exact ⟨rfl, HS.out.1, HS.out.2⟩
/-- power is asked -/
theorem d_isOn {w : World} {base D S M k : Nat} {E : DataW Unit} {V : Nat → Value} {q : Option (Nat × Int)} {d : DiskM} (h : DkW w base D S M k E V q d) (hw : base ≤ w.heap.size) (b : Bool) (hb : offD d = !b) :
    Calls Try.prog 61 #[ptD D] w fun e w' => e = .returned (.bool b) ∧ DkW w' base D S M k E V q d ∧ Turn base w w' (foot D S M V q) (foot D S M V q) := by
  have c2 := h.c2
  unfold ptD
  cases q with
  | none =>
    have hc : d.cut = false := h.pw
    obtain rfl : b = true := by
      unfold offD at hb
      rw [hc] at hb
      cases b
      · cases hb
      · rfl
    unfold pwV at c2
    have HP := Lib.hid (fun n w => d_lasting1 n w)
    have H := Lib.hid h
    clear h hc hb
    go_enter Try.func61, Try.ntmps61
    go_wp2_with (go_at_call 28; (with_reducible refine (HP.out _ _).mono ?_); rintro e w1 ⟨rfl, rfl⟩)
    go_ret
    exact ⟨rfl, H.out, Turn.refl _ _ _⟩
  | some Ll =>
    exact d_isOn_some h hw b hb
/-- is it a sector's number? -/
theorem d_has {w : World} {base D S M k : Nat} {E : DataW Unit} {V : Nat → Value} {q : Option (Nat × Int)} {d : DiskM} (h : DkW w base D S M k E V q d) (i : Int) (b : Bool) (hb : (b = true ∧ inD d i) ∨ (b = false ∧ ¬ inD d i)) (hl : d.sec.length ≤ 4096) :
    Calls Try.prog 24 #[ptD D, .int .i64 i] w fun e w' => e = .returned (.bool b) ∧ w' = w := by
  have c0 := h.c0
  unfold ptD
  unfold inD at hb
  clear h
  generalize d.sec.length = n at *
  rcases hb with ⟨rfl, h0, h1⟩ | ⟨rfl, h1⟩
  · have g0 : decide ((0 : Int) ≤ i) = true := by simpa using h0
    have g1 : decide (i < (n : Int)) = true := by simpa using h1
    go_enter Try.func24, Try.ntmps24
    go_wp2
    go_ret
    exact ⟨rfl, rfl⟩
  · by_cases h0 : 0 ≤ i
    · have g0 : decide ((0 : Int) ≤ i) = true := by simpa using h0
      have h2 : ¬ i < (n : Int) := fun e => h1 ⟨h0, e⟩
      have g1 : decide (i < (n : Int)) = false := by simpa using h2
      clear h1
      go_enter Try.func24, Try.ntmps24
      go_wp2
      go_ret
      exact ⟨rfl, rfl⟩
    · have g0 : decide ((0 : Int) ≤ i) = false := by simpa using h0
      clear h1
      go_enter Try.func24, Try.ntmps24
      go_wp2
      go_ret
      exact ⟨rfl, rfl⟩
theorem d_Sectors {w : World} {base D S M k : Nat} {E : DataW Unit} {V : Nat → Value} {q : Option (Nat × Int)} {d : DiskM} (h : DkW w base D S M k E V q d) :
    Calls Try.prog 29 #[ptD D] w fun e w' => e = .returned (.int .i64 (d.sec.length : Int)) ∧ w' = w := by
  have c0 := h.c0
  unfold ptD
  clear h
  generalize d.sec.length = n at *
  go_enter Try.func29, Try.ntmps29
  go_wp2
  go_ret
  exact ⟨rfl, rfl⟩
end Go.Proofs.Ytccplgicfbfjiaa
namespace Go.Proofs.Ytccplgicfbfjiaa
open Go.RowKit
set_option linter.unusedVariables false

theorem size_sec : (Try.prog.info? 64).map (·.size) = some 32 := by kernel_rfl
theorem info_sec : (Try.prog.info? 64).map (fun i => (i.zero, i.size, i.bytes)) = some (some (.agg (rowB (zerN 32)).toArray), 32, 32) := by kernel_rfl
theorem alloc_sec (w : World) : (Instr.alloc 64 true (.tuple #[])).run Try.prog w = .ok (.pointer (some ⟨w.heap.size, 0, none⟩)) (w.alloc (.cells (rowB (zerN 32)).toArray 64)) := by kernel_rfl
section
variable {P : Program} {ops : Array Oper} {rest : List Oper} {o : Oper} {a : Act} {w : World} {Q : Exit → Act → World → Prop}
/-- a whole block's bytes are told as a text -/
theorem wpList_bytes_blk (hgd : o.guard = none) (src dst e : TypeId) (x : Operand) (ho : o.op = .convert src dst x) (b n cap : Nat) (l : List Nat)
    (hx : a.eval x = .slice (some ⟨b, 0, none⟩) n cap) (hs : P.underlying src = some (.slice e)) (he : P.underlying e = some (.int .u8)) (hd : P.underlying dst = some .string)
    {t : TypeId} (hc : Blk w b t (rowB l)) (hn : n = l.length) (h : wpList P ops Q rest (a.put o.dst (.string (tx l))) w) : wpList P ops Q (o :: rest) a w :=
  wpList_plain hgd fun _ hK => by
    unfold Oper.wp execOp
    simp only [ho, hx, Sem.run_bind, run_bytes_mid (P := P) (w := w) src dst e b 0 n cap (nn l) hs he hd hc.whole (by rw [nn_length]; exact hn), Result.andThen_ok, Sem.run_pure]
    exact hK _ _ h
theorem run_copy_cells (w : World) (dT sT ty elem : TypeId) (g off dLen dCap : Nat) (sa : Addr) (sn sc : Nat) (ys : List Value) (cur : Array Value) (t : TypeId)
    (hu : P.underlying dT = some (.slice elem)) (hs : (P.info? elem).map (·.size) = some 1) (hg : w.heap[g]? = some (.cells cur t (0, 0))) (hys : ∀ j v, ys[j]? = some v → w.cell? (sa.add j) = some v) (hn : sn = ys.length) (hle : sn ≤ dLen) (hfit : off + dLen ≤ cur.size)
    (h1 : ∀ v ∈ ys, v.oneCell' = true) :
    (Builtin.copy_ #[dT, sT] ty #[.slice (some ⟨g, off, none⟩) dLen dCap, .slice (some sa) sn sc]).run P w = .ok (goInt sn) (w.setRow g (cur.toList.take off ++ ys ++ cur.toList.drop (off + sn)).toArray) := by
  have hst := run_storeCells_at P g off t ys 0 cur w hg (by omega) h1
  have hl : (loadCells sa ys.length).run P w = .ok ys.toArray w := run_loadCells_list (P := P) w sa ys hys
  have hmin : Nat.min sn dLen = sn := Nat.min_eq_left hle
  subst hn
  simp only [Nat.add_zero] at hst
  cases hq : P.info? elem with
  | none => simp [hq] at hs
  | some i =>
    have hi : i.size = 1 := by simpa [hq] using hs
    simp [Builtin.copy_, run_underlying hu, Builtin.lenOf, Builtin.firstCells, sizeOf, typeInfo, hq, hmin, hi, hl, hst]
/-- cells are copied over a block's first ones -/
theorem wpList_copy_head (hgd : o.guard = none) (d s : Operand) (dT sT elem : TypeId) (ho : o.op = .call { callee := .builtin .copy, args := #[d, s], argTypes := #[dT, sT] })
    (g dLen dCap : Nat) (hd : a.eval d = .slice (some ⟨g, 0, none⟩) dLen dCap) (sa : Addr) (sn sc : Nat) (hx : a.eval s = .slice (some sa) sn sc) {ty : TypeId} {old : List Value} (hg : Blk w g ty old) (ys : List Value) (hys : ∀ j v, ys[j]? = some v → w.cell? (sa.add j) = some v)
    (hn : sn = ys.length) (hle : sn ≤ dLen) (hfit : dLen ≤ old.length) (h1 : ∀ v ∈ ys, v.oneCell' = true) (hu : P.underlying dT = some (.slice elem)) (hs : (P.info? elem).map (·.size) = some 1)
    (h : wpList P ops Q rest (a.put o.dst (goInt sn)) (w.setRow g (ys ++ old.drop sn).toArray)) : wpList P ops Q (o :: rest) a w :=
  wpList_plain hgd fun _ hK => by
    have hr := run_copy_cells (P := P) w dT sT o.type elem g 0 dLen dCap sa sn sc ys old.toArray ty hu hs hg hys hn hle (by simpa using hfit) h1
    simp only [List.take_zero, List.nil_append, Nat.zero_add] at hr
    unfold Oper.wp
    simp [execOp, ho, resolve, invoke, builtin, hd, hx, hr, Result.andThen]
    exact hK _ _ h
end
set_option maxRecDepth 100000 in
theorem d_text (s : List Nat) (hs : s.length = 32) (w : World) :
    Calls Try.prog 25 #[.agg (rowB s).toArray] w fun e w' => e = .returned (.string (tx s)) ∧ Below w.heap.size w w' := by
  have k1 := Blk.new w 64 (rowB s)
  have hb := (Below.refl w.heap.size w).alloc (Nat.le_refl _) (.cells (rowB s).toArray 64)
  have K1 := Lib.hid k1
  have HB := Lib.hid hb
  have HS := Lib.hid hs.symm
  obtain ⟨R, hR⟩ : ∃ R, rowB s = R := ⟨_, rfl⟩
  have HR := Lib.hid hR
  rw [hR] at K1 HB ⊢
  have KR : Hid (Blk (w.alloc (.cells R.toArray 64)) w.heap.size 64 (rowB s)) := Lib.hid (by rw [hR]; exact K1.out)
  clear k1 hb hs hR
  go_enter Try.func25, Try.ntmps25
  go_wp2_with (refine wpList_bytes_blk rfl 24 9 5 _ rfl w.heap.size 32 32 s rfl Try.underlying24 Try.underlying5 Try.underlying9 KR.out HS.out ?_)
  go_ret
  exact ⟨rfl, HB.out⟩
set_option maxRecDepth 100000 in
theorem d_sectorOf (s : ByteArray) (hs : s.size = 32) (w : World) :
    Calls Try.prog 56 #[.string s] w fun e w' => e = .returned (.agg (rowB (sl s)).toArray) ∧ Below w.heap.size w w' := by
  obtain ⟨R, hR⟩ : ∃ R, rowB (sl s) = R := ⟨_, rfl⟩
  obtain ⟨Z, hZ⟩ : ∃ Z, rowB (zerN 32) = Z := ⟨_, rfl⟩
  have hRl : R.length = 32 := by rw [← hR, rowB_len, sl_len, hs]
  have hZl : Z.length = 32 := by rw [← hZ, rowB_len, zerN_len]
  have h1 : R.toArray.all (·.oneCell') = true := by rw [← hR]; exact rowB_one _
  obtain ⟨B, hB⟩ : ∃ B, w.heap.size = B := ⟨_, rfl⟩
  have hal : ∀ w', (Instr.alloc 64 true (.tuple #[])).run Try.prog w' = .ok (.pointer (some ⟨w'.heap.size, 0, none⟩)) (w'.alloc (.cells Z.toArray 64)) := fun w' => by rw [← hZ]; exact alloc_sec w'
  have k0 := (Blk.newAt w B hB 64 Z rfl).alloc (.cells Z.toArray 64)
  have k1 := Blk.newAt (w.alloc (.cells Z.toArray 64)) (B + 1) (by simp [hB]) 64 Z rfl
  have hb := ((Below.refl w.heap.size w).alloc (Nat.le_refl _) (.cells Z.toArray 64)).alloc (by simp) (.cells Z.toArray 64)
  have e3 : ints .u8 ((is s).take 32) = R := by rw [is_sl, List.take_of_length_le (by rw [nn_length, sl_len, hs]; exact Nat.le_refl _)]; exact hR
  have N1 : Hid (Z = [] ++ (Z ++ [])) := Lib.hid (by simp)
  have N2 : Hid (R = [] ++ (ints .u8 ((is s).take 32) ++ [])) := Lib.hid (by rw [e3]; simp)
  have NL : Hid (32 = Z.length) := Lib.hid hZl.symm
  have HLE : Hid (32 ≤ s.size) := Lib.hid (by omega)
  have j1 := k1.row R (by rw [hRl, hZl])
  have j0 := k0.rowOther (show B ≠ B + 1 by omega) R.toArray
  have jb := below_setRow hb (b := B + 1) (by omega) R.toArray
  have kb := below_setRow jb (b := B) (by omega) R.toArray
  have j2 := j0.row R (by rw [hRl, hZl])
  have HAL := Lib.hid hal
  have K1 := Lib.hid k1
  have J1 := Lib.hid j1
  have J0 := Lib.hid j0
  have J2 := Lib.hid j2
  have KB := Lib.hid kb
  have HRl := Lib.hid hRl
  have HZl := Lib.hid hZl
  have H1 := Lib.hid h1
  have HBE := Lib.hid hB
  rw [hR]
  clear hal k0 k1 hb e3 j1 j0 j2 jb kb hRl hZl h1 hR hZ
  go_enter Try.func56, Try.ntmps56
  go_wp2_with (first | (refine wpList_alloc_n rfl 64 rfl B hB _ (HAL.out _) ?_) | (refine wpList_alloc_n rfl 64 rfl (B + 1) (by simp [hB]) _ (HAL.out _) ?_) | (refine wpList_copy_part rfl _ _ 24 9 5 rfl (B + 1) 0 32 32 rfl s rfl K1.out R [] Z [] N1.out N2.out Try.underlying24 size_u8 HLE.out rfl NL.out ?_) | (refine wpList_load_blk rfl 64 _ rfl _ rfl J1.out Try.underlying64 rfl (by rw [size_sec, HRl.out]) ?_) | (refine wpList_store_blk rfl 64 _ _ rfl B R rfl rfl J0.out (by rw [size_sec, HRl.out]) (by rw [HRl.out, HZl.out]) H1.out ?_))
  refine bodyPost_ret (v := .agg R.toArray) (results_cell_blk rfl _ _ _ rfl J2.out Try.underlying64 rfl (by rw [size_sec, HRl.out])) rfl ⟨rfl, KB.out⟩
theorem d_told (keep : List Nat) (p : Option Addr) (c k : Nat) (r : Nat) (hr : keepD keep k = r) (hk : keep.length ≤ 1000000) (hkk : k ≤ 1000000) (w : World) (hS : Sl w 1 (.slice p keep.length c) (rowsU .u8 keep)) :
    Calls Try.prog 23 #[.slice p keep.length c, .int .i64 (k : Int)] w fun e w' => e = .returned (.int .u8 (r : Int)) ∧ w' = w := by
  unfold keepD at hr
  by_cases h0 : keep = []
  · subst h0
    rw [if_pos rfl] at hr
    subst hr
    clear hS hk
    go_enter Try.func23, Try.ntmps23
    go_wp2
    go_ret
    exact ⟨rfl, rfl⟩
  · rw [if_neg h0] at hr
    have hpos : 0 < keep.length := List.length_pos_iff.2 h0
    have hm : k % keep.length < keep.length := Nat.mod_lt _ hpos
    obtain ⟨ad, rfl, hc⟩ := SlU.cell hS hm
    rw [hr] at hc
    have e1 : ((k : Int) % (keep.length : Int)) = ((k % keep.length : Nat) : Int) := by omega
    have e1' : Int.tmod (k : Int) (keep.length : Int) = ((k % keep.length : Nat) : Int) := rfl
    have i1 : ((k % keep.length : Nat) : Int) < (keep.length : Int) := by omega
    have i0 : (0 : Int) ≤ ((k % keep.length : Nat) : Int) := by omega
    have n0 : ¬ (keep.length : Int) = 0 := by omega
    generalize hq : k % keep.length = m at *
    generalize keep.length = n at *
    clear hr hS h0 hpos hm hq
    go_enter Try.func23, Try.ntmps23
    go_wp2
    go_ret
    exact ⟨rfl, rfl⟩
end Go.Proofs.Ytccplgicfbfjiaa
namespace Go.Proofs.Ytccplgicfbfjiaa
open Go.RowKit
set_option linter.unusedVariables false

theorem row_at {l : List (List Nat)} {j : Nat} (h : j < l.length) {w : World} {b n c : Nat} (hs : Sl w 32 (.slice (some ⟨b, 0, none⟩) n c) (rowsB l)) : ∀ m v, (rowB (l.getD j []))[m]? = some v → w.cell? (Addr.add ⟨b, j * 32, none⟩ m) = some v := by
  obtain ⟨a, e, hc⟩ := hs.row (rowsB_at h)
  cases e
  intro m v hv
  have := hc m v hv
  rw [Addr.add_mid, Nat.zero_add] at this
  exact this
set_option maxRecDepth 100000 in
theorem d_last {w : World} {base D S M k : Nat} {E : DataW Unit} {V : Nat → Value} {q : Option (Nat × Int)} {d : DiskM} (h : DkW w base D S M k E V q d) (hb : DkB d) (i : Nat) (hi : i < d.sec.length) (s : List Nat) (hs : readD d i = s) :
    Calls Try.prog 62 #[ptD D, .int .i64 (i : Int)] w fun e w' => e = .returned (.agg (rowB s).toArray) ∧ Below w.heap.size w w' := by
  have hsl : s.length = 32 := by rw [← hs]; exact read_len hb.ok hi
  obtain ⟨R, hR⟩ : ∃ R, rowB s = R := ⟨_, rfl⟩
  obtain ⟨Z, hZ⟩ : ∃ Z, rowB (zerN 32) = Z := ⟨_, rfl⟩
  have hRl : R.length = 32 := by rw [← hR, rowB_len, hsl]
  have hZl : Z.length = 32 := by rw [← hZ, rowB_len, zerN_len]
  have h1 : R.toArray.all (·.oneCell') = true := by rw [← hR]; exact rowB_one _
  have hsec := hb.sec
  have hi2 : i ≤ 100000 := by omega
  obtain ⟨w1, hw1⟩ : ∃ w1, w.alloc (.cells Z.toArray 64) = w1 := ⟨_, rfl⟩
  have hb1 : Below w.heap.size w w1 := by rw [← hw1]; exact (Below.refl w.heap.size w).alloc (Nat.le_refl _) _
  have h' := h.below hb1
  have k0 : Blk w1 w.heap.size 64 Z := by rw [← hw1]; exact Blk.new w _ Z
  have hal : ∀ w', (Instr.alloc 64 true (.tuple #[])).run Try.prog w' = .ok (.pointer (some ⟨w'.heap.size, 0, none⟩)) (w'.alloc (.cells Z.toArray 64)) := fun w' => by rw [← hZ]; exact alloc_sec w'
  have hL := h'.pen.look hi2
  have c0 := h'.c0
  have c1 := h'.c1
  have kb := below_setRow hb1 (b := w.heap.size) (Nat.le_refl _) R.toArray
  have k2 := k0.row R (by rw [hRl, hZl])
  have hp := hb.pen
  have hpl : (penD d.pen i).length ≤ 100000 := Nat.le_trans (List.length_filterMap_le _ _) hp
  have hin : (i : Int) < (d.sec.length : Int) := by omega
  rw [hR]
  unfold ptD
  rcases h.pen.shape i with ⟨he, hv⟩ | ⟨hne, b, c, hv⟩
  · rw [hv] at hL
    have hrow : ∀ m v, R[m]? = some v → w1.cell? (Addr.add ⟨S, i * 32, none⟩ m) = some v := by
      have := row_at hi (h'.slS hb.ok)
      have e : d.sec.getD i [] = s := by rw [← hs]; unfold readD; rw [he]; rfl
      rw [e, hR] at this
      exact this
    have HROW := Lib.hid hrow
    have HAL := Lib.hid hal
    have K0 := Lib.hid k0
    have K2 := Lib.hid k2
    have KB := Lib.hid kb
    have HRl := Lib.hid hRl
    have HZl := Lib.hid hZl
    have H1 := Lib.hid h1
    clear hrow hal k0 k2 kb hRl hZl h1 h h' hb hb1 hs hsl hR hZ he hv hp hpl hi2 hsec hi
    generalize d.sec.length = n at *
    subst hw1
    go_enter Try.func62, Try.ntmps62
    go_wp2_with (first | (refine wpList_alloc_n rfl 64 rfl w.heap.size rfl _ (HAL.out _) ?_) | (refine wpList_load_addr rfl 64 _ rfl _ rfl R HROW.out Try.underlying64 rfl (by rw [size_sec, HRl.out]) ?_) | (refine wpList_store_blk rfl 64 _ _ rfl w.heap.size R rfl rfl K0.out (by rw [size_sec, HRl.out]) (by rw [HRl.out, HZl.out]) H1.out ?_))
    refine bodyPost_ret (v := .agg R.toArray) (results_cell_blk rfl _ _ _ rfl K2.out Try.underlying64 rfl (by rw [size_sec, HRl.out])) rfl ⟨rfl, KB.out⟩
  · rw [hv] at hL
    have hpos : 0 < (penD d.pen i).length := List.length_pos_iff.2 hne
    have hrow : ∀ m v, R[m]? = some v → w1.cell? (Addr.add ⟨b, ((penD d.pen i).length - 1) * 32, none⟩ m) = some v := by
      have ho := (h'.own i).sl
      rw [hv] at ho
      have hl : (penD d.pen i).length - 1 < (penD d.pen i).length := by omega
      have := row_at hl ho
      have e : (penD d.pen i).getD ((penD d.pen i).length - 1) [] = s := by
        rw [← hs]
        unfold readD lastD
        rw [List.getLast?_eq_getElem?, List.getD_eq_getElem?_getD, List.getElem?_eq_getElem hl]
        rfl
      rw [e, hR] at this
      exact this
    obtain ⟨m, hm⟩ : ∃ m, (penD d.pen i).length = m := ⟨_, rfl⟩
    rw [hm] at hrow hL hpos hpl
    obtain ⟨u, rfl⟩ : ∃ u, m = u + 1 := ⟨m - 1, by omega⟩
    rw [Nat.add_sub_cancel] at hrow
    have e1 : (((u + 1 : Nat) : Int) - 1).toNat = u := by omega
    have e2 : ((u + 1 : Nat) : Int) - 1 = (u : Int) := by omega
    have g1 : (0 : Int) < ((u + 1 : Nat) : Int) := by omega
    have g2 : (u : Int) < ((u + 1 : Nat) : Int) := by omega
    have HROW := Lib.hid hrow
    have HAL := Lib.hid hal
    have K0 := Lib.hid k0
    have K2 := Lib.hid k2
    have KB := Lib.hid kb
    have HRl := Lib.hid hRl
    have HZl := Lib.hid hZl
    have H1 := Lib.hid h1
    clear hrow hal k0 k2 kb hRl hZl h1 h h' hb hb1 hs hsl hR hZ hne hv hp hi2 hsec hi hm
    generalize d.sec.length = n at *
    subst hw1
    go_enter Try.func62, Try.ntmps62
    go_wp2_with (first | (refine wpList_alloc_n rfl 64 rfl w.heap.size rfl _ (HAL.out _) ?_) | (refine wpList_load_addr rfl 64 _ rfl ⟨b, u * 32, none⟩ rfl R HROW.out Try.underlying64 rfl (by rw [size_sec, HRl.out]) ?_) | (refine wpList_store_blk rfl 64 _ _ rfl w.heap.size R rfl rfl K0.out (by rw [size_sec, HRl.out]) (by rw [HRl.out, HZl.out]) H1.out ?_))

    refine bodyPost_ret (v := .agg R.toArray) (results_cell_blk rfl _ _ _ rfl K2.out Try.underlying64 rfl (by rw [size_sec, HRl.out])) rfl ⟨rfl, KB.out⟩
end Go.Proofs.Ytccplgicfbfjiaa
