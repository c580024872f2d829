/- What a call turns: nothing but what belongs to a thing of many blocks. -/
import Derived.Test.YtdpdgmfmjgjmiaaJ1
namespace Go.Proofs.Ytdpdgmfmjgjmiaa
open Go.RowKit
set_option linter.unusedVariables false

/-- what a call turned: nothing but what belongs to the disk and its journals -/
structure Turn (base : Nat) (w w' : World) (F F' : Nat → Prop) : Prop where
  b : Below base w w'
  out : ∀ i, i < w.heap.size → ¬ F i → w'.heap[i]? = w.heap[i]?
  new : ∀ i, F' i → F i ∨ w.heap.size ≤ i
/-- an own slice that is no part of the disk and its journals -/
def Apart (F : Nat → Prop) (v : Value) : Prop := ∀ b, v.ownBlock = some b → ¬ F b
theorem Turn.own {base B : Nat} {w w' : World} {F F' : Nat → Prop} (t : Turn base w w' F F') {e : TypeId} {k : Nat} {v : Value} {rows : List (List Value)} (h : OwnR w B e k v rows) (ha : Apart F v) : OwnR w' B e k v rows ∧ Apart F' v := by
  have hlt := h.lt
  refine ⟨?_, fun b hb hf => ?_⟩
  · obtain ⟨h0, h1, h2⟩ := h
    refine ⟨h0, h1, ?_⟩
    rcases h2 with h2 | ⟨g, cap, cur, hv, hg, hh, r⟩
    · exact .inl h2
    · refine .inr ⟨g, cap, cur, hv, hg, ?_, r⟩
      have hb : v.ownBlock = some g := by rw [hv]; rfl
      rw [t.out g (hlt g hb).2 (ha g hb)]; exact hh
  · rcases t.new b hf with h1 | h1
    · exact ha b hb h1
    · have := (hlt b hb).2; omega
theorem Turn.refl (base : Nat) (w : World) (F : Nat → Prop) : Turn base w w F F := ⟨Below.refl _ _, fun _ _ _ => rfl, fun _ h => .inl h⟩
theorem Turn.trans {base : Nat} {a b c : World} {F G H : Nat → Prop} (h : Turn base a b F G) (k : Turn base b c G H) : Turn base a c F H := by
  have hz := h.b.size
  refine ⟨h.b.trans k.b, fun i hi hF => ?_, fun i hi => ?_⟩
  · rw [k.out i (by omega) (fun hg => (h.new i hg).elim hF (fun h1 => by omega))]
    exact h.out i hi hF
  · rcases k.new i hi with h1 | h1
    · exact h.new i h1
    · exact .inr (by omega)
/-- new memory alone -/
theorem Turn.of_below {base : Nat} {w w' : World} {F : Nat → Prop} (hb : Below w.heap.size w w') (hw : base ≤ w.heap.size) : Turn base w w' F F := ⟨hb.mono hw, fun i hi _ => hb.block i hi, fun _ h => .inl h⟩
/-- one block of the thing's own is written, and new ones are made -/
theorem Turn.of_grown {base : Nat} {w w' : World} {F : Nat → Prop} {o : Option Nat} (hg : w.grownBy w' o) (hw : base ≤ w.heap.size) (ho : ∀ b, o = some b → F b ∧ base ≤ b) : Turn base w w' F F :=
  ⟨⟨hg.os, hg.tape, hg.output, hg.size, fun i hi => hg.block i (by omega) (fun e => by have := (ho i e.symm).2; omega)⟩, fun i hi hF => hg.block i hi (fun e => hF (ho i e.symm).1), fun _ h => .inl h⟩
theorem Turn.blk {base : Nat} {w w' : World} {F F' : Nat → Prop} (t : Turn base w w' F F') {b : Nat} {ty : TypeId} {vs : List Value} (h : Blk w b ty vs) (hb : ¬ F b) : Blk w' b ty vs := (t.out b h.lt hb).trans h
theorem Turn.sub {base : Nat} {w w' : World} {F F' G G' : Nat → Prop} (t : Turn base w w' F F') (hF : ∀ i, F i → G i) (hG : ∀ i, G' i → F' i ∨ G i) : Turn base w w' G G' :=
  ⟨t.b, fun i hi h => t.out i hi (fun hf => h (hF i hf)), fun i hi => (hG i hi).elim (fun h => (t.new i h).imp (hF i) id) .inl⟩
end Go.Proofs.Ytdpdgmfmjgjmiaa
