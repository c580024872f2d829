/- Walk of the program's disk: what Write does while the power is on: one more is pending. -/
import Derived.Test.YtdpdgmfmjgjmiaaZNew
import Derived.Test.YtdpdgmfmjgjmiaaBRo
import Derived.Test.YtdpdgmfmjgjmiaaG1
import Derived.Maps.AppendAt
namespace Go.Proofs.Ytdpdgmfmjgjmiaa
open Go.RowKit
set_option linter.unusedVariables false

theorem info_sec2 : ∃ i : TypeInfo, Try.prog.info? 54 = some i ∧ i.zero = some (.agg (rowB (zerN 32)).toArray) ∧ i.size = 32 ∧ i.bytes = 32 := info_parts2 info_sec
theorem zsec_cells : (Value.agg (rowB (zerN 32)).toArray).cells.size = 32 := by
  show (rowB (zerN 32)).toArray.size = 32
  rw [List.size_toArray, rowB_len, zerN_len]
/-- one more is pending -/
def penA (d : DiskM) (i : Nat) (s : List Nat) : DiskM := { d with pen := d.pen ++ [(i, s)] }
theorem penA_at (d : DiskM) (i : Nat) (s : List Nat) (j : Nat) : penD (penA d i s).pen j = if j = i then penD d.pen i ++ [s] else penD d.pen j := by
  show penD (d.pen ++ [(i, s)]) j = _
  rw [pen_app]
  split
  · rename_i e; subst e; rw [pen_same]
  · rename_i e; rw [pen_other s (fun e' => e e'.symm), List.append_nil]
section
variable {w : World} {base D S M k : Nat} {E : DataW Unit} {V : Nat → Value} {q : Option (Nat × Int)} {d : DiskM}
def wrC (w : World) (base D S M k B0 B1 B2 : Nat) (E : DataW Unit) (V : Nat → Value) (pv : Value) (d : DiskM) (i : Nat) (s : ByteArray) (b : Bool) (W : World) : Prop :=
  Blk W B0 25 [ptD D] ∧ Blk W B1 3 [.int .i64 (i : Int)] ∧ Blk W B2 9 [.string s] ∧ Blk W D 51 [.slice (some ⟨S, 0, none⟩) d.sec.length d.sec.length, .map (some M), pv] ∧
    PenW W M k E d.sec.length V d.pen ∧ w.grownBy W (V i).ownBlock ∧ (b = false → OwnR W base 54 32 (V i) (rowsB (penD d.pen i)))
def wrK (v1 : Value) (b : Bool) (W W' : World) : Prop := W.grownBy W' (match b with | true => none | false => v1.ownBlock)
def wrS (w : World) (base D M : Nat) (v1 : Value) (i : Nat) (s : ByteArray) (R : List Value) (rows : List (List Value)) (j : Nat) (v : Value) (W : World) : Prop :=
  match j with
  | 0 | 1 | 5 | 6 => v = .pointer (some ⟨D, 0, none⟩)
  | 2 | 7 => v = .pointer (some ⟨D, 1, none⟩)
  | 3 | 8 => v = .map (some M)
  | 4 | 9 => v = .int .i64 (i : Int)
  | 10 => v = v1
  | 11 => v = .string s
  | 12 => v = .agg R.toArray
  | 13 => ∃ y, w.heap.size ≤ y ∧ v = .slice (some ⟨y, 0, none⟩) 1 1 ∧ Blk W y 54 R
  | 14 => OwnR W base 54 32 v (rows ++ [R]) ∧ (v.ownBlock = v1.ownBlock ∨ ∃ g, v.ownBlock = some g ∧ w.heap.size ≤ g)
  | _ => True
theorem wrS_mono {w : World} {base D M : Nat} {v1 : Value} {i : Nat} {s : ByteArray} {R : List Value} {rows : List (List Value)} (hlo : ∀ b, v1.ownBlock = some b → b < w.heap.size) (b : Bool) (j : Nat) (v : Value) (W W' : World) (hb : j = 14 → b = true) (h : wrS w base D M v1 i s R rows j v W) (hk : wrK v1 b W W') : wrS w base D M v1 i s R rows j v W' := by
  match j with
  | 0 | 1 | 2 | 3 | 4 | 5 | 6 | 7 | 8 | 9 | 10 | 11 | 12 => exact h
  | 13 =>
    obtain ⟨y, h1, h2, h3⟩ := h
    refine ⟨y, h1, h2, h3.grownP hk fun e => ?_⟩
    cases b
    · have := hlo y e
      omega
    · cases e
  | 14 =>
    obtain rfl := hb rfl
    obtain ⟨h1, h2⟩ := h
    exact ⟨h1.grownO hk (fun _ _ e => by cases e), h2⟩
  | _ + 15 => trivial
theorem wrC_new {B0 B1 B2 : Nat} {pv : Value} {i : Nat} {s : ByteArray} {b : Bool} {W W' : World} (h : wrC w base D S M k B0 B1 B2 E V pv d i s b W) (hb : Below W.heap.size W W') : wrC w base D S M k B0 B1 B2 E V pv d i s b W' :=
  ⟨h.1.below hb h.1.lt, h.2.1.below hb h.2.1.lt, h.2.2.1.below hb h.2.2.1.lt, h.2.2.2.1.below hb h.2.2.2.1.lt, h.2.2.2.2.1.same (hb.block M h.2.2.2.2.1.map.lt), h.2.2.2.2.2.1.trans ((grown_below hb).but _), fun e => (h.2.2.2.2.2.2 e).keep hb⟩
theorem wrK_new {v1 : Value} {b : Bool} {W W' : World} (hb : Below W.heap.size W W') : wrK v1 b W W' := (grown_below hb).but _
/-- the disk, when one more is pending -/
theorem DkW.pended (h : DkW w base D S M k E V q d) {i : Nat} (hi : i < d.sec.length) {s : List Nat} {W W' : World} {g c : Nat} (hg : w.grownBy W (V i).ownBlock) (ho : OwnR W base 54 32 (.slice (some ⟨g, 0, none⟩) ((penD d.pen i).length + 1) c) (rowsB (penD d.pen i) ++ [rowB s]))
    (hl : (V i).ownBlock = some g ∨ w.heap.size ≤ g) (hm : W'.ownsMap Try.prog 3 hdrR M (k + 1) (E.put (kI i) (hdr (.slice (some ⟨g, 0, none⟩) ((penD d.pen i).length + 1) c)))) (hg' : W.grownBy W' (some M)) :
    DkW W' base D S M (k + 1) (E.put (kI i) (hdr (.slice (some ⟨g, 0, none⟩) ((penD d.pen i).length + 1) c))) (updV V i (.slice (some ⟨g, 0, none⟩) ((penD d.pen i).length + 1) c)) q (penA d i s) ∧
      Turn base w W' (foot D S M V q) (foot D S M (updV V i (.slice (some ⟨g, 0, none⟩) ((penD d.pen i).length + 1) c)) q) := by
  have hsz := hg.size
  have hst : ∀ b, b < w.heap.size → some b ≠ (V i).ownBlock → b ≠ M → W'.heap[b]? = w.heap[b]? := fun b hb h1 h2 => by
    rw [hg'.block b (by omega) (fun e => h2 (Option.some.inj e))]
    exact hg.block b hb h1
  have hgM : g ≠ M := by
    rcases hl with e | e
    · exact h.neVM e
    · have := h.pen.map.lt; omega
  have hgS : g ≠ S := by
    rcases hl with e | e
    · exact h.offS i g e
    · have := h.sec.lt; omega
  have hap : ∀ j, j ≠ i → ∀ b, (V j).ownBlock = some b → b ≠ g := fun j hj b e e2 => by
    rcases hl with e3 | e3
    · exact hj (h.apart j i g (by rw [← e2]; exact e) e3)
    · have := ((h.own j).lt b e).2; omega
  have hnew : (Value.slice (some ⟨g, 0, none⟩) ((penD d.pen i).length + 1) c).ownBlock = some g := rfl
  constructor
  · refine ⟨?_, ?_, h.pen.put hi hm, ?_, fun j => ?_, fun a b x ha hb => ?_, fun a b ha => ?_, fun L l e => ?_, ?_, h.hD, h.hS, h.hM⟩
    · exact (hst D h.blk.lt (fun e => h.neVD e.symm rfl) h.neDM).trans h.blk
    · exact (hst S h.sec.lt (fun e => h.offS i S e.symm rfl) h.neSM).trans h.sec
    · show k + 1 = (d.pen ++ [(i, s)]).length
      rw [List.length_append, h.len]; rfl
    · rw [penA_at]
      by_cases e : j = i
      · subst e
        rw [if_pos rfl, updV_same, rowsB_app]
        exact ho.grownO hg' (fun b hb e => by rw [hnew] at hb; cases hb; exact hgM (Option.some.inj e))
      · rw [if_neg e, updV_other _ _ e]
        exact DkW.ownSame (h.own j) fun b hb => hst b ((h.own j).lt b hb).2 (fun e2 => e (h.apart j i b hb e2.symm)) (h.neVM hb)
    · by_cases ea : a = i
      · by_cases eb : b = i
        · rw [ea, eb]
        · rw [ea, updV_same, hnew] at ha
          rw [updV_other _ _ eb] at hb
          exact absurd (Option.some.inj ha).symm (hap b eb x hb)
      · rw [updV_other _ _ ea] at ha
        by_cases eb : b = i
        · rw [eb, updV_same, hnew] at hb
          exact absurd (Option.some.inj hb).symm (hap a ea x ha)
        · rw [updV_other _ _ eb] at hb
          exact h.apart a b x ha hb
    · by_cases ea : a = i
      · rw [ea, updV_same, hnew] at ha
        rw [← Option.some.inj ha]; exact hgS
      · rw [updV_other _ _ ea] at ha
        exact h.offS a b ha
    · obtain ⟨h1, h2⟩ := h.left L l e
      exact ⟨(hst L h1.lt (fun e2 => h.neVL e e2.symm rfl) (h.neLM e)).trans h1, h2⟩
    · have := h.pw
      cases q with
      | none => exact this
      | some x => exact this
  · refine ⟨⟨hg'.os.trans hg.os, hg'.tape.trans hg.tape, hg'.output.trans hg.output, Nat.le_trans hg.size hg'.size, fun b hb => ?_⟩, fun b hb hF => ?_, fun b hF => ?_⟩
    · have h1 := h.blk.lt
      have h2 := h.hD
      exact hst b (by omega) (fun e => by have := ((h.own i).lt b e.symm).1; omega) (fun e => by have := h.hM; omega)
    · exact hst b hb (fun e => hF (DkW.footV i e.symm)) (fun e => hF (.inr (.inr (.inl e))))
    · rcases hF with e | e | e | e | ⟨j, e⟩
      · exact .inl (.inl e)
      · exact .inl (.inr (.inl e))
      · exact .inl (.inr (.inr (.inl e)))
      · exact .inl (.inr (.inr (.inr (.inl e))))
      · by_cases ej : j = i
        · rw [ej, updV_same, hnew] at e
          cases e
          exact hl.imp (fun e => DkW.footV i e) id
        · rw [updV_other _ _ ej] at e
          exact .inl (DkW.footV j e)
end
end Go.Proofs.Ytdpdgmfmjgjmiaa
