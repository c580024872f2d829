/- Walks of the program's disk: power, which sectors there are, a sector's text and its bytes. -/
import Derived.Test.YtdpdgmfmjgjmiaaZDw
namespace Go.Proofs.Ytdpdgmfmjgjmiaa
open Go.RowKit
set_option linter.unusedVariables false

theorem i64_of {x : Int} (h : (Lit.int .i64 x).wf = true) : -9223372036854775808 ≤ x ∧ x ≤ 9223372036854775807 := by
  have e1 : IntKind.i64.min = -9223372036854775808 := by decide
  have e2 : IntKind.i64.max = 9223372036854775807 := by decide
  simpa [Lit.wf, e1, e2] using h
theorem wf_i64I {x : Int} (h1 : -9223372036854775808 ≤ x) (h2 : x ≤ 9223372036854775807) : (Lit.int .i64 x).wf = true := by
  have e1 : IntKind.i64.min = -9223372036854775808 := by decide
  have e2 : IntKind.i64.max = 9223372036854775807 := by decide
  simp only [Lit.wf, e1, e2, Bool.and_eq_true, decide_eq_true_eq]
  omega
theorem wrap_i64I {x : Int} (h1 : -9223372036854775808 ≤ x) (h2 : x ≤ 9223372036854775807) : IntKind.i64.wrap x = x := by rw [IntKind.wrap_i64]; omega
/-- what is left is told anew -/
theorem DkW.setLeft {w : World} {base D S M k : Nat} {E : DataW Unit} {V : Nat → Value} {L : Nat} {l l' : Int} {d d' : DiskM} (h : DkW w base D S M k E V (some (L, l)) d) (hs : d'.sec = d.sec) (hp : d'.pen = d.pen) (hq : pwIs d' (some (L, l'))) :
    DkW (w.setCell ⟨L, 0, none⟩ (.int .i64 l')) base D S M k E V (some (L, l')) d' ∧ Turn base w (w.setCell ⟨L, 0, none⟩ (.int .i64 l')) (foot D S M V (some (L, l))) (foot D S M V (some (L, l'))) := by
  obtain ⟨hL, hb⟩ := h.left L l rfl
  have hg := grown_setCell w ⟨L, 0, none⟩ (.int .i64 l')
  have ht : Turn base w (w.setCell ⟨L, 0, none⟩ (.int .i64 l')) (foot D S M V (some (L, l))) (foot D S M V (some (L, l'))) :=
    Turn.of_grown hg (by have := hL.lt; omega) (fun b e => by cases e; exact ⟨DkW.footL rfl, hb⟩)
  refine ⟨?_, ht⟩
  have ho : ∀ i, i ≠ L → (w.setCell ⟨L, 0, none⟩ (.int .i64 l')).heap[i]? = w.heap[i]? := fun i hi => Below.heap_setCell _ _ _ i hi
  refine ⟨?_, ?_, ?_, by rw [hp]; exact h.len, fun i => ?_, h.apart, h.offS, fun L' x e => ?_, hq, h.hD, h.hS, h.hM⟩
  · rw [hs]; exact (ho D (fun e => h.neLD rfl e.symm)).trans h.blk
  · rw [hs]; exact (ho S (fun e => h.neLS rfl e.symm)).trans h.sec
  · rw [hs, hp]; exact h.pen.same (ho M (fun e => h.neLM rfl e.symm))
  · rw [hp]; exact DkW.ownSame (h.own i) fun b e => ho b (h.neVL rfl e)
  · cases e
    exact ⟨hL.set 0 _, hb⟩
/-- power is asked -/
theorem d_isOn {w : World} {base D S M k : Nat} {E : DataW Unit} {V : Nat → Value} {q : Option (Nat × Int)} {d : DiskM} (h : DkW w base D S M k E V q d) (hw : base ≤ w.heap.size) (b : Bool) (hb : offD d = !b) :
    Calls Try.prog 31 #[ptD D] w fun e w' => e = .returned (.bool b) ∧ DkW w' base D S M k E V q d ∧ Turn base w w' (foot D S M V q) (foot D S M V q) := by
  have c2 := h.c2
  unfold ptD
  cases q with
  | none =>
    have hc : d.cut = false := h.pw
    obtain rfl : b = true := by
      unfold offD at hb
      rw [hc] at hb
      cases b
      · cases hb
      · rfl
    unfold pwV at c2
    have HP := Lib.hid (fun n w => d_lasting1 n w)
    have H := Lib.hid h
    clear h hc hb
    go_enter Try.func31, Try.ntmps31
    go_wp2_with (go_at_call 33; (with_reducible refine (HP.out _ _).mono ?_); rintro e w1 ⟨rfl, rfl⟩)
    go_ret
    exact ⟨rfl, H.out, Turn.refl _ _ _⟩
  | some Ll =>
    obtain ⟨L, l⟩ := Ll
    obtain ⟨hc, h1, h2, h3⟩ := h.pw
    have hl := i64_of h3
    have hm : IntKind.i64.wrap (l - 0) = l := by rw [Int.sub_zero]; exact wrap_i64I hl.1 hl.2
    have hbb : decide (0 < l) = b := by
      unfold offD at hb
      rw [hc, Bool.true_and] at hb
      have hd : d.rest ≤ 0 ↔ ¬ 0 < l := by rw [h1]; omega
      cases b
      · have : ¬ 0 < l := hd.1 (by simpa using hb)
        simpa using this
      · have : ¬ ¬ 0 < l := fun e => by
          have := hd.2 e
          simp [this] at hb
        simpa using this
    have hs := h.setLeft (l' := l) (d' := d) rfl rfl h.pw
    have HS := Lib.hid hs
    have HP := Lib.hid (d_going1 0 l L b l w (h.left L l rfl).1 hm hbb)
    unfold pwV at c2
    clear h hc h1 h2 h3 hl hm hbb hs hb
    go_enter Try.func31, Try.ntmps31
    go_wp2_with (go_at_call 37; (with_reducible refine HP.out.mono ?_); rintro e w1 ⟨rfl, rfl⟩)
    go_ret
    exact ⟨rfl, HS.out.1, HS.out.2⟩
/-- is it a sector's number? -/
theorem d_has {w : World} {base D S M k : Nat} {E : DataW Unit} {V : Nat → Value} {q : Option (Nat × Int)} {d : DiskM} (h : DkW w base D S M k E V q d) (i : Int) (b : Bool) (hb : (b = true ∧ inD d i) ∨ (b = false ∧ ¬ inD d i)) (hl : d.sec.length ≤ 4096) :
    Calls Try.prog 19 #[ptD D, .int .i64 i] w fun e w' => e = .returned (.bool b) ∧ w' = w := by
  have c0 := h.c0
  unfold ptD
  unfold inD at hb
  clear h
  generalize d.sec.length = n at *
  rcases hb with ⟨rfl, h0, h1⟩ | ⟨rfl, h1⟩
  · have g0 : decide ((0 : Int) ≤ i) = true := by simpa using h0
    have g1 : decide (i < (n : Int)) = true := by simpa using h1
    go_enter Try.func19, Try.ntmps19
    go_wp2
    go_ret
    exact ⟨rfl, rfl⟩
  · by_cases h0 : 0 ≤ i
    · have g0 : decide ((0 : Int) ≤ i) = true := by simpa using h0
      have h2 : ¬ i < (n : Int) := fun e => h1 ⟨h0, e⟩
      have g1 : decide (i < (n : Int)) = false := by simpa using h2
      clear h1
      go_enter Try.func19, Try.ntmps19
      go_wp2
      go_ret
      exact ⟨rfl, rfl⟩
    · have g0 : decide ((0 : Int) ≤ i) = false := by simpa using h0
      clear h1
      go_enter Try.func19, Try.ntmps19
      go_wp2
      go_ret
      exact ⟨rfl, rfl⟩
theorem d_Sectors {w : World} {base D S M k : Nat} {E : DataW Unit} {V : Nat → Value} {q : Option (Nat × Int)} {d : DiskM} (h : DkW w base D S M k E V q d) :
    Calls Try.prog 17 #[ptD D] w fun e w' => e = .returned (.int .i64 (d.sec.length : Int)) ∧ w' = w := by
  have c0 := h.c0
  unfold ptD
  clear h
  generalize d.sec.length = n at *
  go_enter Try.func17, Try.ntmps17
  go_wp2
  go_ret
  exact ⟨rfl, rfl⟩
end Go.Proofs.Ytdpdgmfmjgjmiaa
