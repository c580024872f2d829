/- What is pending, as a map of sectors in memory: its slices' heads as data, look-ups, stores, keys in order, all cleared. -/
import Derived.Test.YtdpdgmfmjgjmiaaZLay
import Derived.Test.YtdpdgmfmjgjmiaaZDk
import Derived.Test.YtdpdgmfmjgjmiaaZTrn
import Derived.Maps.OwnSet
namespace Go.Proofs.Ytdpdgmfmjgjmiaa
open Go.RowKit
open Go.Maps (Keyed int_keyed)
set_option linter.unusedVariables false

/-- a slice of the call's own, as a datum -/
def hdrR (v : Value) : Option (DataW Unit × List MemPlace) :=
  match v with
  | .slice none 0 0 => some (.nil, [])
  | .slice (some ⟨b, 0, none⟩) n c => some (.agg [.lit (.int .i64 (b : Int)), .lit (.int .i64 (n : Int)), .lit (.int .i64 (c : Int))], [])
  | _ => none
def hdr (v : Value) : DataW Unit := match hdrR v with | some z => z.1 | none => .nil
theorem hdr_nil : hdrR (.slice none 0 0) = some (hdr (.slice none 0 0), []) := rfl
theorem hdr_slice (b n c : Nat) : hdrR (.slice (some ⟨b, 0, none⟩) n c) = some (hdr (.slice (some ⟨b, 0, none⟩) n c), []) := rfl
theorem hdrR_inj {v v' : Value} {d : DataW Unit} {ps ps' : List MemPlace} (h : hdrR v = some (d, ps)) (h' : hdrR v' = some (d, ps')) : v = v' := by
  unfold hdrR at h h'
  split at h
  · cases h
    split at h'
    · rfl
    · cases h'
    · cases h'
  · cases h
    split at h'
    · cases h'
    · simp only [Option.some.injEq, Prod.mk.injEq, DataW.agg.injEq, List.cons.injEq, DataW.lit.injEq, Lit.int.injEq, true_and, and_true] at h'
      obtain ⟨⟨h1, h2, h3⟩, _⟩ := h'
      have e1 := Int.ofNat_inj.1 h1
      have e2 := Int.ofNat_inj.1 h2
      have e3 := Int.ofNat_inj.1 h3
      subst e1 e2 e3
      rfl
    · cases h'
  · cases h
theorem hdrR_slice_inv {v : Value} {z : DataW Unit × List MemPlace} (h : hdrR v = some z) : ∃ c : Option Addr × Nat × Nat, v = .slice c.1 c.2.1 c.2.2 := by
  unfold hdrR at h
  split at h
  · exact ⟨⟨none, 0, 0⟩, rfl⟩
  · exact ⟨⟨_, _, _⟩, rfl⟩
  · cases h
def kI (i : Nat) : Lit := .int .i64 (i : Int)
theorem kI_inj {i j : Nat} (h : kI i = kI j) : i = j := by
  unfold kI at h
  simp only [Lit.int.injEq, true_and] at h
  omega
theorem law_int : Keyed Try.prog 3 := int_keyed Try.underlying3
theorem kI_wf {i : Nat} (h : i ≤ 100000) : (kI i).wf = true := wf_small i h
theorem key_at {i : Nat} (h : i ≤ 100000) : keyOf Try.prog 3 (.int .i64 (i : Int)) = some (kI i) := Maps.keyOf_int_mk Try.underlying3 (wf_small i h)
/-- what is pending, in memory -/
structure PenW (w : World) (M k : Nat) (D : DataW Unit) (n : Nat) (V : Nat → Value) (pen : List (Nat × List Nat)) : Prop where
  map : w.ownsMap Try.prog 3 hdrR M k D
  att : ∀ (i : Nat) zd, D.atKey (kI i) zd = if penD pen i = [] then zd else hdr (V i)
  has : ∀ i : Nat, Maps.has D (kI i) = decide (penD pen i ≠ [])
  keys : ∀ kl, Maps.has D kl = true → ∃ i, i < n ∧ kl = kI i
  shape : ∀ i, (penD pen i = [] ∧ V i = .slice none 0 0) ∨ (penD pen i ≠ [] ∧ ∃ b c, V i = .slice (some ⟨b, 0, none⟩) (penD pen i).length c)
namespace PenW
variable {w : World} {M k : Nat} {D : DataW Unit} {n : Nat} {V : Nat → Value} {pen : List (Nat × List Nat)}
theorem hdrs (h : PenW w M k D n V pen) (i : Nat) : hdrR (V i) = some (hdr (V i), []) := by
  rcases h.shape i with ⟨_, e⟩ | ⟨_, b, c, e⟩
  · rw [e]; rfl
  · rw [e]; rfl
theorem att0 (h : PenW w M k D n V pen) (i : Nat) : D.atKey (kI i) .nil = hdr (V i) := by
  rw [h.att]
  rcases h.shape i with ⟨e, e2⟩ | ⟨e, _⟩
  · rw [if_pos e, e2]; rfl
  · rw [if_neg e]
theorem isSlice (h : PenW w M k D n V pen) (i : Nat) : ∃ p c, V i = .slice p (penD pen i).length c := by
  rcases h.shape i with ⟨e, e2⟩ | ⟨e, b, c, e2⟩
  · exact ⟨none, 0, by rw [e, e2]; rfl⟩
  · exact ⟨_, c, e2⟩
/-- a look-up -/
theorem look (h : PenW w M k D n V pen) {i : Nat} (hi : i ≤ 100000) : (Instr.lookup 46 (.map (some M)) (.int .i64 (i : Int)) false).run Try.prog w = .ok (V i) w := by
  obtain ⟨v, ps, hrun, hv⟩ := h.map.lookup law_int Try.underlying46 (Try.zeroValue45 w) hdr_nil (key_at hi)
  rw [show hdr (.slice none 0 0) = .nil from rfl, h.att0 i] at hv
  rw [hrun, hdrR_inj hv (h.hdrs i)]
theorem same (h : PenW w M k D n V pen) {w' : World} (hM : w'.heap[M]? = w.heap[M]?) : PenW w' M k D n V pen := by
  refine ⟨?_, h.att, h.has, h.keys, h.shape⟩
  obtain ⟨es, clock, hb, F, hs, hD⟩ := h.map
  exact ⟨es, clock, hM.trans hb, F, hs, hD⟩
theorem kept (h : PenW w M k D n V pen) {w' : World} {row : Option Nat} (hg : w.grownBy w' row) (hne : some M ≠ row) : PenW w' M k D n V pen := h.same (hg.block M h.map.lt hne)
end PenW
/-- one more is pending for a sector -/
def updV (V : Nat → Value) (i : Nat) (v : Value) : Nat → Value := fun j => if j = i then v else V j
theorem updV_same (V : Nat → Value) (i : Nat) (v : Value) : updV V i v i = v := if_pos rfl
theorem updV_other (V : Nat → Value) {i j : Nat} (v : Value) (h : j ≠ i) : updV V i v j = V j := if_neg h
theorem PenW.put {w w' : World} {M k : Nat} {D : DataW Unit} {n : Nat} {V : Nat → Value} {pen : List (Nat × List Nat)} (h : PenW w M k D n V pen) {i : Nat} (hi : i < n) {s : List Nat} {b c : Nat} (hm : w'.ownsMap Try.prog 3 hdrR M (k + 1) (D.put (kI i) (hdr (.slice (some ⟨b, 0, none⟩) ((penD pen i).length + 1) c)))) :
    PenW w' M (k + 1) (D.put (kI i) (hdr (.slice (some ⟨b, 0, none⟩) ((penD pen i).length + 1) c))) n (updV V i (.slice (some ⟨b, 0, none⟩) ((penD pen i).length + 1) c)) (pen ++ [(i, s)]) := by
  have hD := h.map.isMap
  have hk : WideAt.IsKeyLit (kI i) := trivial
  have hp : ∀ j, penD (pen ++ [(i, s)]) j = if j = i then penD pen i ++ [s] else penD pen j := fun j => by
    rw [pen_app]
    split
    · rename_i e; subst e; rw [pen_same]
    · rename_i e; rw [pen_other s (fun e' => e e'.symm), List.append_nil]
  refine ⟨hm, fun j zd => ?_, fun j => ?_, fun kl hkl => ?_, fun j => ?_⟩
  · rw [hp]
    by_cases e : j = i
    · subst e
      rw [if_pos rfl, if_neg (by simp), updV_same, Maps.atKey_put_same hD hk]
    · rw [if_neg e, updV_other _ _ e, Maps.atKey_put_other (fun e' => e (kI_inj e'))]
      exact h.att j zd
  · rw [hp]
    by_cases e : j = i
    · subst e
      rw [if_pos rfl, Maps.has_put_same hD hk]
      simp
    · rw [if_neg e, Maps.has_put_other (fun e' => e (kI_inj e'))]
      exact h.has j
  · by_cases e : kl = kI i
    · exact ⟨i, hi, e⟩
    · rw [Maps.has_put_other e] at hkl
      exact h.keys kl hkl
  · rw [hp]
    by_cases e : j = i
    · subst e
      rw [if_pos rfl, updV_same]
      exact .inr ⟨by simp, b, c, by rw [List.length_append]; rfl⟩
    · rw [if_neg e, updV_other _ _ e]
      exact h.shape j
def noV (_ : Nat) : Value := .slice none 0 0
theorem PenW.none {w : World} {M n : Nat} (hm : w.ownsMap Try.prog 3 hdrR M 0 (.map [])) : PenW w M 0 (.map []) n noV [] :=
  ⟨hm, fun i zd => (if_pos rfl).symm, fun i => rfl, (fun kl h => by cases h), fun i => .inl ⟨rfl, rfl⟩⟩
/-- clear -/
theorem wpList_clear_own {H : Type} {P : Program} (w : World) {ops : Array Oper} {rest : List Oper} {o : Oper} {a : Act} {Q : Exit → Act → World → Prop}
    (hg : o.guard = none) (m : Operand) (t : TypeId) (hop : o.op = Op.call { callee := Callee.builtin Builtin.clear, args := #[m], argTypes := #[t] })
    (k e : TypeId) (ht : P.underlying t = some (.map k e)) (R : Value → Option (DataW H × List MemPlace)) (b n : Nat) (D : DataW H)
    (hm : a.eval m = .map (some b)) (hown : w.ownsMap P k R b n D)
    (hK : ∀ w', w'.ownsMap P k R b 0 (.map []) → w.grownBy w' (some b) → wpList P ops Q rest (a.put o.dst (.tuple #[])) w') : wpList P ops Q (o :: rest) a w := by
  refine wpList_plain hg fun K' hK' => ?_
  obtain ⟨es, clock, hb, F, hs, hD⟩ := hown
  have hrun : (Builtin.clear_ #[t] o.type #[.map (some b)]).run P w = .ok (.tuple #[]) (ChangeMaps.setBlock w b (.map #[] clock)) := by
    simp [Builtin.clear_, run_underlying ht, MapKept.run_getObj_map hb, MapKept.run_setObj_map _ hb, ChangeMaps.setBlock, Result.andThen]
  unfold Oper.wp
  simp [execOp, hop, resolve, invoke, builtin, hm, hrun, Result.andThen]
  exact hK' _ _ (hK _ ⟨#[], clock, ChangeMaps.heap_setBlock_same hb _, ⟨by simp, MapKept.stamped_empty clock, by simp⟩, Nat.le_refl _, rfl⟩ ⟨rfl, rfl, rfl, by simp [ChangeMaps.setBlock], fun i _ hi => ChangeMaps.heap_setBlock_other hb _ (fun e => hi (by rw [e]))⟩)
end Go.Proofs.Ytdpdgmfmjgjmiaa
