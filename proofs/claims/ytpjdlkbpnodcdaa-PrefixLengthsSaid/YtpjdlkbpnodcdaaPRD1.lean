/- What the reference's depths keeps of its trees. -/
import Derived.Test.YtpjdlkbpnodcdaaPRDn
namespace Go.Proofs.Ytpjdlkbpnodcdaa
open Go.RowKit
set_option linter.unusedVariables false

theorem OwnR.grownO {w w' : World} {base : Nat} {e : TypeId} {k : Nat} {v : Value} {rows : List (List Value)} (h : OwnR w base e k v rows) {o : Option Nat} (hg : w.grownBy w' o) (hne : ∀ b, v.ownBlock = some b → some b ≠ o) : OwnR w' base e k v rows := by
  obtain ⟨k0, k1, k2⟩ := h
  refine ⟨k0, k1, ?_⟩
  rcases k2 with h | ⟨g, cap, cur, hv, hgg, hh, rest⟩
  · exact .inl h
  · refine .inr ⟨g, cap, cur, hv, hgg, ?_, rest⟩
    have hlt : g < w.heap.size := by
      rcases Nat.lt_or_ge g w.heap.size with hb | hb
      · exact hb
      · rw [Array.getElem?_eq_none hb] at hh; cases hh
    rw [hg.block g hlt (hne g (by rw [hv]; rfl))]
    exact hh
theorem OwnR.apart {w : World} {base base' : Nat} {e e' : TypeId} {k k' : Nat} {v v' : Value} {rows rows' : List (List Value)} (h : OwnR w base e k v rows) (h' : OwnR w base' e' k' v' rows') (ht : e ≠ e') : ∀ b, v.ownBlock = some b → some b ≠ v'.ownBlock := by
  intro b hb e0
  rcases h.2.2 with ⟨hv, _⟩ | ⟨g, cap, cur, hv, hg, hh, r⟩
  · rw [hv] at hb; cases hb
  · rw [hv] at hb
    cases hb
    exact h'.ne (b := g) (t := e) (vs := cur.toList) (by unfold Blk; exact hh) ht g e0.symm rfl
/-- trees' symbols lie where they did, and not in o -/
def TrsO (w : World) (B : Nat) (o : Option Nat) (T : List RT) : Prop := ∀ t ∈ T, (∃ rest, Blk w t.g 3 (ints .i64 (nn t.syms) ++ rest)) ∧ B ≤ t.g ∧ o ≠ some t.g
theorem TrsO.nil (w : World) (B : Nat) (o : Option Nat) : TrsO w B o [] := fun t h => by cases h
theorem TrsO.grown {w w' : World} {B : Nat} {o o' q : Option Nat} {T : List RT} (h : TrsO w B o T) (hg : w.grownBy w' q) (hq : ∀ t ∈ T, q ≠ some t.g) (ho : o' = o ∨ o' = some w.heap.size) : TrsO w' B o' T := fun t ht => by
  obtain ⟨⟨rest, h1⟩, h2, h3⟩ := h t ht
  refine ⟨⟨rest, (hg.block t.g h1.lt (fun e => hq t ht e.symm)).trans h1⟩, h2, fun e => ?_⟩
  rcases ho with rfl | rfl
  · exact h3 e
  · have h4 := h1.lt
    have e2 := Option.some.inj e
    omega
theorem TrsO.below {w w' : World} {B : Nat} {o : Option Nat} {T : List RT} (h : TrsO w B o T) (hb : Below w.heap.size w w') : TrsO w' B o T := fun t ht => by
  obtain ⟨⟨rest, h1⟩, h2, h3⟩ := h t ht
  exact ⟨⟨rest, h1.below hb h1.lt⟩, h2, h3⟩
theorem TrsO.sub {w : World} {B : Nat} {o : Option Nat} {T T' : List RT} (h : TrsO w B o T) (hs : ∀ t ∈ T', t ∈ T) : TrsO w B o T' := fun t ht => h t (hs t ht)
theorem TrsO.own {w : World} {B base : Nat} {o : Option Nat} {T : List RT} (h : TrsO w B o T) {v : Value} {k : Nat} {rows : List (List Value)} (hv : OwnR w base 91 k v rows) : ∀ t ∈ T, v.ownBlock ≠ some t.g := fun t ht e => by
  obtain ⟨⟨rest, h1⟩, _⟩ := h t ht
  exact hv.ne h1 (by decide) _ e rfl
theorem TrsO.add {w : World} {B : Nat} {o : Option Nat} {T : List RT} {t : RT} (h : TrsO w B o T) (ht : (∃ rest, Blk w t.g 3 (ints .i64 (nn t.syms) ++ rest)) ∧ B ≤ t.g ∧ o ≠ some t.g) : TrsO w B o (T ++ [t]) := fun u hu => by
  rcases List.mem_append.1 hu with hu | hu
  · exact h u hu
  · rw [List.mem_singleton.1 hu]; exact ht
theorem TrsO.alloc {w : World} {B : Nat} {o : Option Nat} {T : List RT} (h : TrsO w B o T) (x : Obj) : TrsO (w.alloc x) B o T := h.below ((Below.refl _ _).alloc (Nat.le_refl _) x)
/-- a leaf is made: its symbols' slice, its row's slice -/
theorem leaf_new {w : World} {B : Nat} {u : Value} {o : Option Nat} {T : List RT} (j q : Nat) (hu : OwnR w B 91 2 u (rowsT T)) (hT : TrsO w B o T) (hb : B ≤ w.heap.size) (ho : ∀ b, o = some b → b < w.heap.size) (wb : World) (hwb : (w.alloc (.cells #[.int .i64 (j : Int)] 3)).alloc (.cells #[.int .i64 (q : Int), .slice (some ⟨w.heap.size, 0, none⟩) 1 1] 91) = wb) :
    OwnR wb B 91 2 u (rowsT T) ∧ TrsO wb B o (T ++ [⟨q, j, [j], w.heap.size, 1⟩]) ∧ Sl wb 2 (.slice (some ⟨w.heap.size + 1, 0, none⟩) 1 1) [[.int .i64 (q : Int), .slice (some ⟨w.heap.size, 0, none⟩) 1 1]] ∧ Below w.heap.size w wb := by
  subst hwb
  have k1 := (Blk.new' w 3 (c := #[.int .i64 (j : Int)]) [.int .i64 (j : Int)] rfl).alloc (.cells #[.int .i64 (q : Int), .slice (some ⟨w.heap.size, 0, none⟩) 1 1] 91)
  have k2 : Blk ((w.alloc (.cells #[.int .i64 (j : Int)] 3)).alloc (.cells #[.int .i64 (q : Int), .slice (some ⟨w.heap.size, 0, none⟩) 1 1] 91)) (w.heap.size + 1) 91 [.int .i64 (q : Int), .slice (some ⟨w.heap.size, 0, none⟩) 1 1] := Blk.newAt _ _ (by simp) _ _ rfl
  refine ⟨(hu.alloc _).alloc _, ((hT.alloc _).alloc _).add ⟨⟨[], by rw [List.append_nil]; exact k1⟩, hb, fun e => ?_⟩, sl_one k2, ((Below.refl _ _).alloc (Nat.le_refl _) _).alloc (by simp) _⟩
  have := ho _ e
  exact absurd this (Nat.lt_irrefl _)
theorem zerN_snoc (n : Nat) : zerN (n + 1) = zerN n ++ [0] := by unfold zerN; rw [List.replicate_succ']
theorem Blk.grownP {w w' : World} {b : Nat} {t : TypeId} {vs : List Value} {o : Option Nat} (h : Blk w b t vs) (hg : w.grownBy w' o) (hne : o ≠ some b) : Blk w' b t vs := (hg.block b h.lt (fun e => hne e.symm)).trans h
theorem Blk.slNS {w : World} {g : Nat} {t : TypeId} {l : List Nat} {rest : List Value} (h : Blk w g t (ints .i64 (nn l) ++ rest)) (cap : Nat) : Sl w 1 (.slice (some ⟨g, 0, none⟩) l.length cap) (rowsN l) := by
  have fl : ∀ l : List Nat, (rowsN l).flatten = ints .i64 (nn l) := fun l => by
    induction l with
    | nil => rfl
    | cons n l ih =>
      have e : rowsN (n :: l) = [.int .i64 (n : Int)] :: rowsN l := rfl
      rw [e, List.flatten_cons, ih]
      rfl
  rw [← fl] at h
  have := sl_blkS (k := 1) (cap := cap) (fun r hr => by simp only [rowsN, List.mem_map] at hr; obtain ⟨n, _, rfl⟩ := hr; rfl) h
  rw [rowsN_len] at this
  exact this
theorem Blk.natS {w : World} {g : Nat} {t : TypeId} {l : List Nat} {rest : List Value} (h : Blk w g t (ints .i64 (nn l) ++ rest)) {j : Nat} (hj : j < l.length) : w.cell? ⟨g, j, none⟩ = some (.int .i64 ((l.getD j 0 : Nat) : Int)) := by
  rw [h.cell, List.getElem?_append_left (by rw [ints_length, nn_length]; exact hj)]
  unfold ints nn
  simp [hj]
theorem Blk.setS {w : World} {g : Nat} {t : TypeId} {l : List Nat} {rest : List Value} (h : Blk w g t (ints .i64 (nn l) ++ rest)) {j : Nat} (hj : j < l.length) (n : Nat) : Blk (w.setCell ⟨g, j, none⟩ (.int .i64 (n : Int))) g t (ints .i64 (nn (l.set j n)) ++ rest) := by
  have := h.set j (.int .i64 (n : Int))
  rwa [List.set_append_left _ _ (by rw [ints_length, nn_length]; exact hj), ints_set, nn_set] at this
theorem rowsN_flat (l : List Nat) : (rowsN l).flatten = ints .i64 (nn l) := by
  induction l with
  | nil => rfl
  | cons n l ih =>
    have e : rowsN (n :: l) = [.int .i64 (n : Int)] :: rowsN l := rfl
    rw [e, List.flatten_cons, ih]
    rfl
theorem rowsN_app (a b : List Nat) : rowsN (a ++ b) = rowsN a ++ rowsN b := by simp [rowsN]
theorem rowsN_one (a : List Nat) : ∀ r ∈ rowsN a, ∀ u ∈ r, u.oneCell' = true := fun r hr u hu => by
  simp only [rowsN, List.mem_map] at hr
  obtain ⟨n, _, rfl⟩ := hr
  rw [List.mem_singleton.1 hu]
  rfl
theorem TrsO.cell {w : World} {B : Nat} {o : Option Nat} {T : List RT} (h : TrsO w B o T) (b j : Nat) (u : Value) {vs : List Value} (hb : Blk w b 91 vs) : TrsO (w.setCell ⟨b, j, none⟩ u) B o T := h.grown (grown_setCell w ⟨b, j, none⟩ u) (fun t ht e => by
  have e' : b = t.g := Option.some.inj e
  obtain ⟨⟨rest, h1⟩, _⟩ := h t ht
  rw [← e'] at h1
  unfold Blk at hb h1
  rw [hb] at h1
  simp at h1) (.inl rfl)
theorem OwnR.cellOther {w : World} {base : Nat} {e : TypeId} {k : Nat} {v : Value} {rows : List (List Value)} (h : OwnR w base e k v rows) {b : Nat} {t : TypeId} {vs : List Value} (hb : Blk w b t vs) (ht : t ≠ e) (j : Nat) (u : Value) : OwnR (w.setCell ⟨b, j, none⟩ u) base e k v rows := h.grownO (grown_setCell w ⟨b, j, none⟩ u) (fun i hi e => h.ne hb ht i hi (Option.some.inj e))
/-- depths are handed back -/
def DepRet (L : List Nat) (w : World) (e : Ending) (w' : World) : Prop := ∃ v, e = .returned v ∧ OwnR w' w.heap.size 3 1 v (rowsN L) ∧ Below w.heap.size w w'
end Go.Proofs.Ytpjdlkbpnodcdaa
