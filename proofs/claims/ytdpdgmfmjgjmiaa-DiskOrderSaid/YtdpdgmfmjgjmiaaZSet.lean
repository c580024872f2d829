/- Walk of the program's disk: settle: all that is pending is made safe, in whatever order; then nothing is pending. -/
import Derived.Test.YtdpdgmfmjgjmiaaZStp
namespace Go.Proofs.Ytdpdgmfmjgjmiaa
open Go.RowKit
set_option linter.unusedVariables false

/-! ### one sector is written -/
theorem heap_setCells {b i : Nat} (h : i ≠ b) : ∀ (cs : List Value) (o : Nat) (w : World), (w.setCells b o cs).heap[i]? = w.heap[i]?
  | [], _, _ => rfl
  | v :: cs, o, w => (heap_setCells h cs (o + 1) (w.setCell ⟨b, o, none⟩ v)).trans (Below.heap_setCell w ⟨b, o, none⟩ v i h)
theorem rows_parts {l : List (List Nat)} {i : Nat} (h : i < l.length) : (rowsB l).flatten = (rowsB (l.take i)).flatten ++ (rowB (l.getD i []) ++ (rowsB (l.drop (i + 1))).flatten) := by
  have e : l = l.take i ++ (l.getD i [] :: l.drop (i + 1)) := by
    rw [List.getD_eq_getElem?_getD, List.getElem?_eq_getElem h]
    show l = l.take i ++ (l[i] :: l.drop (i + 1))
    rw [← List.drop_eq_getElem_cons h, List.take_append_drop]
  conv => lhs; rw [e]
  rw [rowsB_app, List.flatten_append]
  rfl
theorem rows_set {l : List (List Nat)} {i : Nat} (h : i < l.length) (s : List Nat) : (rowsB (l.set i s)).flatten = (rowsB (l.take i)).flatten ++ (rowB s ++ (rowsB (l.drop (i + 1))).flatten) := by
  rw [List.set_eq_take_append_cons_drop, if_pos h, rowsB_app, List.flatten_append]
  rfl
theorem rows_off {l : List (List Nat)} (hl : ∀ s ∈ l, s.length = 32) (i : Nat) (h : i ≤ l.length) : ((rowsB (l.take i)).flatten).length = i * 32 := by
  rw [flat_len (k := 32) (rowsB_each fun s hs => hl s (List.mem_of_mem_take hs)), rowsB_len, List.length_take, Nat.min_eq_left h]
def secS (d : DiskM) (sec : List (List Nat)) : DiskM := { d with sec := sec }
section
variable {w : World} {base D S M k : Nat} {E : DataW Unit} {V : Nat → Value} {q : Option (Nat × Int)} {d : DiskM}
theorem DkW.setSec (h : DkW w base D S M k E V q d) {w' : World} {sec : List (List Nat)} (hl : sec.length = d.sec.length) (hg : w.grownBy w' (some S)) (hs : Blk w' S 54 (rowsB sec).flatten) : DkW w' base D S M k E V q (secS d sec) ∧ Turn base w w' (foot D S M V q) (foot D S M V q) := by
  have hst : ∀ b, b < w.heap.size → b ≠ S → w'.heap[b]? = w.heap[b]? := fun b hb h1 => hg.block b hb fun e => h1 (Option.some.inj e)
  refine ⟨⟨?_, hs, ?_, h.len, fun i => DkW.ownSame (h.own i) fun b e => hst b ((h.own i).lt b e).2 (h.offS i b e), h.apart, h.offS, fun L l e => ?_, ?_, h.hD, h.hS, h.hM⟩, Turn.of_grown hg (by have := h.blk.lt; have := h.hD; omega) fun b e => by cases e; exact ⟨.inr (.inl rfl), h.hS⟩⟩
  · show Blk w' D _ [.slice (some ⟨S, 0, none⟩) sec.length sec.length, _, _]
    rw [hl]
    exact (hst D h.blk.lt h.neDS).trans h.blk
  · show PenW w' M k E sec.length V d.pen
    rw [hl]
    exact h.pen.same (hst M h.pen.map.lt (fun e => h.neSM e.symm))
  · obtain ⟨h1, h2⟩ := h.left L l e
    exact ⟨(hst L h1.lt (h.neLS e)).trans h1, h2⟩
  · have := h.pw
    cases q with
    | none => exact this
    | some x => exact this
/-- a sector is stored -/
theorem DkW.stored (h : DkW w base D S M k E V q d) (hb : DkB d) {i : Nat} (hi : i < d.sec.length) (s : List Nat) (hs : s.length = 32) : w.there S (i * 32) 32 ∧
    DkW (w.setCells S (i * 32) (rowB s)) base D S M k E V q (secS d (d.sec.set i s)) ∧ Turn base w (w.setCells S (i * 32) (rowB s)) (foot D S M V q) (foot D S M V q) := by
  have hp := h.sec
  rw [rows_parts hi] at hp
  have ho := rows_off hb.ok.sec i (Nat.le_of_lt hi)
  have hold : (rowB (d.sec.getD i [])).length = (rowB s).length := by rw [rowB_len, rowB_len, hs]; exact getD_mem32 hb.ok hi
  have hr : (rowB s).length = 32 := by rw [rowB_len, hs]
  have hset := setCells_part (rowB (d.sec.getD i [])) (rowB s) _ _ w hp hold
  rw [ho, ← rows_set hi] at hset
  have hbl := below_setCells (b := S) (B := S) (x := w) (Nat.le_refl _) (rowB s) (i * 32) w (Below.refl _ _)
  refine ⟨fun j hj => ⟨?_, hp.free _⟩, h.setSec (by simp) ⟨hbl.os, hbl.tape, hbl.output, hbl.size, fun b _ hb => heap_setCells (fun e => hb (by rw [e])) _ _ _⟩ hset⟩
  rw [hp.cell]
  have : i * 32 + j < ((rowsB (d.sec.take i)).flatten ++ (rowB (d.sec.getD i []) ++ (rowsB (d.sec.drop (i + 1))).flatten)).length := by rw [List.length_append, List.length_append, ho]; omega
  rw [List.getElem?_eq_getElem this]
  rfl
end
section
variable {P : Program} {ops : Array Oper} {rest : List Oper} {o : Oper} {a : Act} {w : World} {Q : Exit → Act → World → Prop}
theorem wpList_store_sec (hgd : o.guard = none) (ty : TypeId) (p v : Operand) (ho : o.op = .store ty p v) (g off : Nat) (hx : a.eval p = .pointer (some ⟨g, off, none⟩)) (cs : List Value) (hy : a.eval v = .agg cs.toArray) (hth : w.there g off 32) (hcs : cs.length = 32)
    (hi : (P.info? ty).map (·.size) = some 32) (h1 : cs.toArray.all (·.oneCell') = true) (h : wpList P ops Q rest (a.put o.dst undef) (w.setCells g off cs)) : wpList P ops Q (o :: rest) a w :=
  wpList_store_mid hgd ty p v ho g off cs.toArray hx hy (by simpa [hcs] using hth) (by simpa [hcs] using hi) h1 (by simpa using h)
end
/-! ### all that is pending -/
/-- the sectors, when those keys have been gone through that are no longer left -/
def secZ (d : DiskM) (left : Lit → Bool) : List (List Nat) := (List.range d.sec.length).map fun i => if penD d.pen i ≠ [] ∧ left (kI i) = false then readD d i else d.sec.getD i []
theorem secZ_len (d : DiskM) (left : Lit → Bool) : (secZ d left).length = d.sec.length := by simp [secZ]
theorem secZ_at (d : DiskM) (left : Lit → Bool) {i : Nat} (h : i < d.sec.length) : (secZ d left).getD i [] = if penD d.pen i ≠ [] ∧ left (kI i) = false then readD d i else d.sec.getD i [] := range_getD h
theorem listL_ext {a b : List (List Nat)} (hl : a.length = b.length) (h : ∀ i, i < a.length → a.getD i [] = b.getD i []) : a = b := by
  refine List.ext_getElem hl fun i h1 h2 => ?_
  have := h i h1
  rw [List.getD_eq_getElem?_getD, List.getD_eq_getElem?_getD, List.getElem?_eq_getElem h1, List.getElem?_eq_getElem h2] at this
  exact this
theorem getD_setL {a : List (List Nat)} {i j : Nat} (s : List Nat) (h : i < a.length) : (a.set i s).getD j [] = if i = j then s else a.getD j [] := by
  rw [List.getD_eq_getElem?_getD, List.getElem?_set]
  split
  · rename_i e; subst e; first | rfl | (rw [if_pos h]; rfl)
  · rw [← List.getD_eq_getElem?_getD]
theorem secZ_start (d : DiskM) (left : Lit → Bool) (h : ∀ i, penD d.pen i ≠ [] → left (kI i) = true) : secZ d left = d.sec := by
  refine listL_ext (secZ_len d left) fun i hi => ?_
  rw [secZ_len] at hi
  rw [secZ_at d left hi, if_neg]
  rintro ⟨h1, h2⟩
  rw [h i h1] at h2
  cases h2
theorem secZ_step (d : DiskM) (left : Lit → Bool) {i : Nat} (hi : i < d.sec.length) (hp : penD d.pen i ≠ []) : secZ d (fun z => left z && !z.sameKey (kI i)) = (secZ d left).set i (readD d i) := by
  refine listL_ext (by rw [List.length_set, secZ_len, secZ_len]) fun j hj => ?_
  rw [secZ_len] at hj
  rw [secZ_at d _ hj, getD_setL _ (by rw [secZ_len]; exact hi)]
  by_cases e : i = j
  · subst e
    rw [if_pos rfl, if_pos]
    refine ⟨hp, ?_⟩
    have : (kI i).sameKey (kI i) = true := WideAt.sameKey_self trivial
    rw [this]
    simp
  · rw [if_neg e, secZ_at d left hj]
    have : (kI j).sameKey (kI i) = false := Maps.sameKey_ne (fun e2 => e (kI_inj e2).symm)
    rw [this]
    simp
theorem secZ_read (d : DiskM) (left : Lit → Bool) {i : Nat} (hi : i < d.sec.length) (hp : penD d.pen i ≠ []) : readD (secS d (secZ d left)) i = readD d i := by
  show lastD _ (penD d.pen i) = lastD _ (penD d.pen i)
  unfold lastD
  cases hg : (penD d.pen i).getLast? with
  | none => exact absurd (List.getLast?_eq_none_iff.1 hg) hp
  | some x => rfl
theorem secZ_end (d : DiskM) (left : Lit → Bool) (h : ∀ kl, left kl = false) : secZ d left = (List.range d.sec.length).map fun i => readD d i := by
  refine listL_ext (by rw [secZ_len]; simp) fun i hi => ?_
  rw [secZ_len] at hi
  rw [secZ_at d left hi, range_getD hi]
  by_cases hp : penD d.pen i = []
  · rw [if_neg (fun e => e.1 hp)]
    unfold readD
    rw [hp]; rfl
  · rw [if_pos ⟨hp, h _⟩]
theorem dkb_sec {d : DiskM} (hb : DkB d) {sec : List (List Nat)} (hl : sec.length = d.sec.length) (h : ∀ s ∈ sec, s.length = 32 ∧ Bys s) : DkB (secS d sec) :=
  ⟨⟨fun s hs => (h s hs).1, fun p hp => ⟨(hb.ok.pen p hp).1, by show p.1 < sec.length; rw [hl]; exact (hb.ok.pen p hp).2⟩⟩, by show sec.length ≤ 4096; rw [hl]; exact hb.sec, hb.pen, hb.rest, fun s hs => (h s hs).2, hb.bys.2⟩
theorem dkb_secZ {d : DiskM} (hb : DkB d) (left : Lit → Bool) : DkB (secS d (secZ d left)) := by
  refine dkb_sec hb (secZ_len d left) fun s hs => ?_
  obtain ⟨i, hi, rfl⟩ := List.mem_map.1 hs
  have hi := List.mem_range.1 hi
  split
  · exact ⟨read_len hb.ok hi, read_bys hb.bys i⟩
  · exact ⟨getD_mem32 hb.ok hi, getD_secB hb.bys.1 i⟩
def settleD (d : DiskM) : DiskM := { d with sec := (List.range d.sec.length).map (fun i => readD d i), pen := [] }
theorem settle_sync (d : DiskM) : tickD (settleD d) = syncD d := rfl
theorem DkW.cleared {w : World} {base D S M k : Nat} {E : DataW Unit} {V : Nat → Value} {q : Option (Nat × Int)} {d : DiskM} (h : DkW w base D S M k E V q d) {w' : World} (hm : w'.ownsMap Try.prog 3 hdrR M 0 (.map [])) (hg : w.grownBy w' (some M)) :
    DkW w' base D S M 0 (.map []) noV q { d with pen := [] } ∧ Turn base w w' (foot D S M V q) (foot D S M noV q) := by
  have hst : ∀ b, b < w.heap.size → b ≠ M → w'.heap[b]? = w.heap[b]? := fun b hb h1 => hg.block b hb fun e => h1 (Option.some.inj e)
  have ht : Turn base w w' (foot D S M V q) (foot D S M V q) := Turn.of_grown hg (by have := h.blk.lt; have := h.hD; omega) fun b e => by cases e; exact ⟨.inr (.inr (.inl rfl)), h.hM⟩
  refine ⟨⟨(hst D h.blk.lt h.neDM).trans h.blk, (hst S h.sec.lt h.neSM).trans h.sec, PenW.none hm, rfl, fun i => OwnR.nil _ _ _ _, (fun i j b h => by cases h), (fun i b h => by cases h), fun L l e => ?_, ?_, h.hD, h.hS, h.hM⟩, ⟨ht.b, ht.out, fun i hi => .inl ?_⟩⟩
  · obtain ⟨h1, h2⟩ := h.left L l e
    exact ⟨(hst L h1.lt (h.neLM e)).trans h1, h2⟩
  · have := h.pw
    cases q with
    | none => exact this
    | some x => exact this
  · rcases hi with e | e | e | e | ⟨j, e⟩
    · exact .inl e
    · exact .inr (.inl e)
    · exact .inr (.inr (.inl e))
    · exact .inr (.inr (.inr (.inl e)))
    · cases e
end Go.Proofs.Ytdpdgmfmjgjmiaa
