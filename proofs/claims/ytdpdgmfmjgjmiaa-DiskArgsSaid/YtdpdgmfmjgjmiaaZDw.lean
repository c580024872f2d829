/- The program's disk in memory: its sectors' block, what is pending, its power; which blocks are its own; what stays. -/
import Derived.Test.YtdpdgmfmjgjmiaaZPen
import Derived.Test.YtdpdgmfmjgjmiaaG1
namespace Go.Proofs.Ytdpdgmfmjgjmiaa
open Go.RowKit
set_option linter.unusedVariables false

/-- a sector as a row -/
def rowB (s : List Nat) : List Value := ints .u8 (nn s)
theorem rowB_len (s : List Nat) : (rowB s).length = s.length := by unfold rowB; rw [ints_length, nn_length]
def rowsB (l : List (List Nat)) : List (List Value) := l.map rowB
theorem rowsB_len (l : List (List Nat)) : (rowsB l).length = l.length := by simp [rowsB]
theorem rowsB_app (a b : List (List Nat)) : rowsB (a ++ b) = rowsB a ++ rowsB b := by simp [rowsB]
theorem rowsB_at {l : List (List Nat)} {j : Nat} (h : j < l.length) : (rowsB l)[j]? = some (rowB (l.getD j [])) := by simp [rowsB, h]
theorem rowsB_each {l : List (List Nat)} (h : ∀ s ∈ l, s.length = 32) : ∀ r ∈ rowsB l, r.length = 32 := fun r hr => by
  obtain ⟨s, hs, rfl⟩ := List.mem_map.1 hr
  rw [rowB_len, h s hs]
theorem rowB_one (s : List Nat) : (rowB s).toArray.all (·.oneCell') = true := ints_one _ _
theorem rowsB_one (l : List (List Nat)) : ∀ r ∈ rowsB l, ∀ u ∈ r, u.oneCell' = true := fun r hr u hu => by
  obtain ⟨s, _, rfl⟩ := List.mem_map.1 hr
  unfold rowB ints at hu
  obtain ⟨x, _, rfl⟩ := List.mem_map.1 hu
  rfl
/-- power, as a value: it lasts, or a cell tells how much is left -/
def pwV : Option (Nat × Int) → Value
  | none => .func (.func 33) #[] #[]
  | some q => .func (.func 37) #[] #[.pointer (some ⟨q.1, 0, none⟩)]
/-- what power there is -/
def pwIs (d : DiskM) : Option (Nat × Int) → Prop
  | none => d.cut = false
  | some q => d.cut = true ∧ (0 < q.2 ↔ 0 < d.rest) ∧ (0 < q.2 → q.2 = d.rest) ∧ (Lit.int .i64 q.2).wf = true
/-- the blocks that are a disk's own -/
def foot (D S M : Nat) (V : Nat → Value) (q : Option (Nat × Int)) (i : Nat) : Prop := i = D ∨ i = S ∨ i = M ∨ q.map (·.1) = some i ∨ ∃ k, (V k).ownBlock = some i
structure DkW (w : World) (base D S M k : Nat) (E : DataW Unit) (V : Nat → Value) (q : Option (Nat × Int)) (d : DiskM) : Prop where
  blk : Blk w D 51 [.slice (some ⟨S, 0, none⟩) d.sec.length d.sec.length, .map (some M), pwV q]
  sec : Blk w S 54 (rowsB d.sec).flatten
  pen : PenW w M k E d.sec.length V d.pen
  len : k = d.pen.length
  own : ∀ i, OwnR w base 54 32 (V i) (rowsB (penD d.pen i))
  apart : ∀ i j b, (V i).ownBlock = some b → (V j).ownBlock = some b → i = j
  offS : ∀ i b, (V i).ownBlock = some b → b ≠ S
  left : ∀ L l, q = some (L, l) → Blk w L 3 [.int .i64 l] ∧ base ≤ L
  pw : pwIs d q
  hD : base ≤ D
  hS : base ≤ S
  hM : base ≤ M
namespace DkW
variable {w w' : World} {base D S M k : Nat} {E : DataW Unit} {V : Nat → Value} {q : Option (Nat × Int)} {d : DiskM}
theorem lt (h : DkW w base D S M k E V q d) : ∀ i, foot D S M V q i → base ≤ i ∧ i < w.heap.size := by
  rintro i (rfl | rfl | rfl | e | ⟨j, e⟩)
  · exact ⟨h.hD, h.blk.lt⟩
  · exact ⟨h.hS, h.sec.lt⟩
  · exact ⟨h.hM, h.pen.map.lt⟩
  · obtain ⟨⟨L, l⟩, e1, e2⟩ := Option.map_eq_some_iff.1 e
    obtain rfl : L = i := e2
    have := h.left _ _ e1
    exact ⟨this.2, this.1.lt⟩
  · exact (h.own j).lt i e
theorem ownSame {B : Nat} {e : TypeId} {n : Nat} {v : Value} {rows : List (List Value)} (h : OwnR w B e n v rows) (hs : ∀ b, v.ownBlock = some b → w'.heap[b]? = w.heap[b]?) : OwnR w' B e n v rows := by
  obtain ⟨h0, h1, h2⟩ := h
  refine ⟨h0, h1, ?_⟩
  rcases h2 with h2 | ⟨g, cap, cur, hv, hg, hh, r⟩
  · exact .inl h2
  · exact .inr ⟨g, cap, cur, hv, hg, (hs g (by rw [hv]; rfl)).trans hh, r⟩
theorem keep (h : DkW w base D S M k E V q d) (hs : ∀ i, foot D S M V q i → w'.heap[i]? = w.heap[i]?) : DkW w' base D S M k E V q d :=
  ⟨(hs D (.inl rfl)).trans h.blk, (hs S (.inr (.inl rfl))).trans h.sec, h.pen.same (hs M (.inr (.inr (.inl rfl)))), h.len, fun i => ownSame (h.own i) fun b e => hs b (.inr (.inr (.inr (.inr ⟨i, e⟩)))), h.apart, h.offS,
    fun L l e => ⟨(hs L (.inr (.inr (.inr (.inl (by rw [e]; rfl)))))).trans (h.left L l e).1, (h.left L l e).2⟩, h.pw, h.hD, h.hS, h.hM⟩
theorem below (h : DkW w base D S M k E V q d) (hb : Below w.heap.size w w') : DkW w' base D S M k E V q d := h.keep fun i hi => hb.block i (h.lt i hi).2
theorem out {F' : Nat → Prop} (h : DkW w base D S M k E V q d) {F : Nat → Prop} (t : Turn base w w' F F') (hF : ∀ i, foot D S M V q i → ¬ F i) : DkW w' base D S M k E V q d := h.keep fun i hi => t.out i (h.lt i hi).2 (hF i hi)
/-- no two of them are one -/
theorem neDS (h : DkW w base D S M k E V q d) : D ≠ S := by
  rintro rfl
  have h1 := h.blk
  have h2 := h.sec
  unfold Blk at h1 h2
  rw [h1] at h2
  simp at h2
theorem neDM (h : DkW w base D S M k E V q d) : D ≠ M := by
  rintro rfl
  obtain ⟨es, clock, hb, _⟩ := h.pen.map
  have h1 := h.blk
  unfold Blk at h1
  rw [h1] at hb
  simp at hb
theorem neSM (h : DkW w base D S M k E V q d) : S ≠ M := by
  rintro rfl
  obtain ⟨es, clock, hb, _⟩ := h.pen.map
  have h1 := h.sec
  unfold Blk at h1
  rw [h1] at hb
  simp at hb
theorem neLD (h : DkW w base D S M k E V q d) {L : Nat} {l : Int} (e : q = some (L, l)) : L ≠ D := by
  rintro rfl
  have h1 := h.blk
  have h2 := (h.left _ _ e).1
  unfold Blk at h1 h2
  rw [h1] at h2
  simp at h2
theorem neLS (h : DkW w base D S M k E V q d) {L : Nat} {l : Int} (e : q = some (L, l)) : L ≠ S := by
  rintro rfl
  have h1 := h.sec
  have h2 := (h.left _ _ e).1
  unfold Blk at h1 h2
  rw [h1] at h2
  simp at h2
theorem neLM (h : DkW w base D S M k E V q d) {L : Nat} {l : Int} (e : q = some (L, l)) : L ≠ M := by
  rintro rfl
  obtain ⟨es, clock, hb, _⟩ := h.pen.map
  have h1 := (h.left _ _ e).1
  unfold Blk at h1
  rw [h1] at hb
  simp at hb
theorem neVD (h : DkW w base D S M k E V q d) {i b : Nat} (e : (V i).ownBlock = some b) : b ≠ D := (h.own i).ne h.blk (by decide) b e
theorem neVL (h : DkW w base D S M k E V q d) {L : Nat} {l : Int} (e : q = some (L, l)) {i b : Nat} (e2 : (V i).ownBlock = some b) : b ≠ L := (h.own i).ne (h.left _ _ e).1 (by decide) b e2
theorem neVM (h : DkW w base D S M k E V q d) {i b : Nat} (e : (V i).ownBlock = some b) : b ≠ M := by
  rintro rfl
  obtain ⟨es, clock, hb, _⟩ := h.pen.map
  rcases (h.own i).2.2 with ⟨hv, _⟩ | ⟨g, cap, cur, hv, hg, hh, r⟩
  · rw [hv] at e; cases e
  · rw [hv] at e
    cases e
    change w.heap[g]? = _ at hb
    rw [hb] at hh
    simp at hh
theorem footV (i : Nat) {b : Nat} (e : (V i).ownBlock = some b) : foot D S M V q b := .inr (.inr (.inr (.inr ⟨i, e⟩)))
theorem footL {L : Nat} {l : Int} (e : q = some (L, l)) : foot D S M V q L := .inr (.inr (.inr (.inl (by rw [e]; rfl))))
/-- the disk's cells -/
theorem c0 (h : DkW w base D S M k E V q d) : w.cell? ⟨D, 0, none⟩ = some (.slice (some ⟨S, 0, none⟩) d.sec.length d.sec.length) := by rw [h.blk.cell]; rfl
theorem c1 (h : DkW w base D S M k E V q d) : w.cell? ⟨D, 1, none⟩ = some (.map (some M)) := by rw [h.blk.cell]; rfl
theorem c2 (h : DkW w base D S M k E V q d) : w.cell? ⟨D, 2, none⟩ = some (pwV q) := by rw [h.blk.cell]; rfl
theorem slS (h : DkW w base D S M k E V q d) (ho : DiskOk d) : Sl w 32 (.slice (some ⟨S, 0, none⟩) d.sec.length d.sec.length) (rowsB d.sec) := by
  have := sl_blkS (cap := d.sec.length) (rest := []) (rowsB_each ho.sec) (by rw [List.append_nil]; exact h.sec)
  rw [rowsB_len] at this
  exact this
end DkW
/-- a disk, with its blocks -/
def DkF (base : Nat) (w : World) (D : Nat) (d : DiskM) (F : Nat → Prop) : Prop := ∃ S M k E V q, DkW w base D S M k E V q d ∧ F = foot D S M V q
theorem DkF.keep {base : Nat} {w w' : World} {D : Nat} {d : DiskM} {F : Nat → Prop} (h : DkF base w D d F) (hs : ∀ i, F i → w'.heap[i]? = w.heap[i]?) : DkF base w' D d F := by
  obtain ⟨S, M, k, E, V, q, h, rfl⟩ := h
  exact ⟨S, M, k, E, V, q, h.keep hs, rfl⟩
theorem DkF.lt {base : Nat} {w : World} {D : Nat} {d : DiskM} {F : Nat → Prop} (h : DkF base w D d F) : ∀ i, F i → base ≤ i ∧ i < w.heap.size := by
  obtain ⟨S, M, k, E, V, q, h, rfl⟩ := h
  exact h.lt
theorem DkF.ptr {base : Nat} {w : World} {D : Nat} {d : DiskM} {F : Nat → Prop} (h : DkF base w D d F) : F D := by
  obtain ⟨S, M, k, E, V, q, h, rfl⟩ := h
  exact .inl rfl
/-! ### the plainest calls -/
theorem d_lasting (w : World) : Calls Try.prog 18 #[] w fun e w' => e = .returned (pwV none) ∧ w' = w := by
  go_enter Try.func18, Try.ntmps18
  go_wp2
  go_ret
  exact ⟨rfl, rfl⟩
theorem d_lasting1 (n : Int) (w : World) : Calls Try.prog 33 #[.int .i64 n] w fun e w' => e = .returned (.bool true) ∧ w' = w := by
  go_enter Try.func33, Try.ntmps33
  go_wp2
  go_ret
  exact ⟨rfl, rfl⟩
theorem d_going (n : Int) (w : World) : Calls Try.prog 29 #[.int .i64 n] w fun e w' => e = .returned (pwV (some (w.heap.size, n))) ∧ w' = w.alloc (.cells #[.int .i64 n] 3) := by
  go_enter Try.func29, Try.ntmps29
  go_wp2
  go_ret
  exact ⟨rfl, rfl⟩
theorem d_going1 (n l : Int) (L : Nat) (b : Bool) (m : Int) (w : World) (hL : Blk w L 3 [.int .i64 l]) (hm : IntKind.i64.wrap (l - n) = m) (hb : decide (0 < m) = b) :
    Calls Try.prog 37 #[.int .i64 n, .pointer (some ⟨L, 0, none⟩)] w fun e w' => e = .returned (.bool b) ∧ w' = w.setCell ⟨L, 0, none⟩ (.int .i64 m) := by
  have c0 := hL.cell 0
  have f0 := hL.free 0
  have c1 := (hL.set 0 (.int .i64 m)).cell 0
  simp only [List.getElem?_cons_zero, List.set_cons_zero] at c0 c1
  have hb' : decide (m > 0) = b := hb
  clear hL
  go_enter Try.func37, Try.ntmps37
  go_wp2
  go_ret
  exact ⟨rfl, rfl⟩
end Go.Proofs.Ytdpdgmfmjgjmiaa
