/- Walks of the journal's plainest calls: an area, room, used. -/
import Derived.Test.YtmonenbnjnjahaaYFr
import Derived.Test.YtmonenbnjnjahaaZA
import Derived.Test.YtmonenbnjnjahaaG1
import Derived.BigQuiet
namespace Go.Proofs.Ytmonenbnjnjahaa
open Go.RowKit
set_option linter.unusedVariables false

/-- an area, a journal in memory -/
def arV (D fr to : Nat) : List Value := [ptD D, .int .i64 (fr : Int), .int .i64 (to : Int)]
def juV (D : Nat) (m : JurM) : List Value := [ptD D, .int .i64 (m.fr : Int), .int .i64 (m.to : Int), .int .i64 (m.nx : Int)]
theorem size_ar : (Try.prog.info? 49).map (·.size) = some 3 := by kernel_rfl
theorem Turn.then {base : Nat} {w w1 w2 : World} {F F1 F2 : Nat → Prop} (t : Turn base w w1 F F1) (hb : Below w.heap.size w1 w2) (hw : base ≤ w.heap.size) (hF : ∀ i, F2 i → F1 i ∨ w.heap.size ≤ i) : Turn base w w2 F F2 :=
  ⟨t.b.trans (hb.mono hw), fun i hi hn => (hb.block i hi).trans (t.out i hi hn), fun i hi => (hF i hi).elim (t.new i) .inr⟩
theorem j_Room (J D : Nat) (m : JurM) (w : World) (hJ : Blk w J 55 (juV D m)) (hm : m.fr ≤ m.nx ∧ m.nx ≤ m.to ∧ m.to ≤ 4096) (r : Nat) (hr : m.to - m.nx = r) :
    Calls Try.prog 10 #[ptD J] w fun x w' => x = .returned (.int .i64 (r : Int)) ∧ Below w.heap.size w w' := by
  have c2 := hJ.cell 2
  have c3 := hJ.cell 3
  unfold juV at c2 c3
  simp only [List.getElem?_cons_zero, List.getElem?_cons_succ] at c2 c3
  obtain ⟨h1, h2, h3⟩ := hm
  obtain ⟨fr, to, nx⟩ := m
  dsimp only at *
  have e : (to : Int) - (nx : Int) = (r : Int) := by omega
  have i1 : (nx : Int) ≤ (to : Int) := by omega
  have i2 : (to : Int) ≤ 4096 := by omega
  have HE := Lib.hid e
  unfold ptD
  clear e hr h1 h2 h3 hJ
  go_enter Try.func10, Try.ntmps10
  go_wp2
  go_quiet (fail)
  go_wp2
  go_ret
  exact ⟨by rw [← HE.out]; rfl, below_drewN (Below.refl _ _) _⟩
theorem j_Used (J D : Nat) (m : JurM) (w : World) (hJ : Blk w J 55 (juV D m)) (hm : m.fr ≤ m.nx ∧ m.nx ≤ m.to ∧ m.to ≤ 4096) (r : Nat) (hr : m.nx - m.fr = r) :
    Calls Try.prog 13 #[ptD J] w fun x w' => x = .returned (.int .i64 (r : Int)) ∧ Below w.heap.size w w' := by
  have c2 := hJ.cell 1
  have c3 := hJ.cell 3
  unfold juV at c2 c3
  simp only [List.getElem?_cons_zero, List.getElem?_cons_succ] at c2 c3
  obtain ⟨h1, h2, h3⟩ := hm
  obtain ⟨fr, to, nx⟩ := m
  dsimp only at *
  have e : (nx : Int) - (fr : Int) = (r : Int) := by omega
  have i1 : (fr : Int) ≤ (nx : Int) := by omega
  have i2 : (nx : Int) ≤ 4096 := by omega
  have HE := Lib.hid e
  unfold ptD
  clear e hr h1 h2 h3 hJ
  go_enter Try.func13, Try.ntmps13
  go_wp2
  go_quiet (fail)
  go_wp2
  go_ret
  exact ⟨by rw [← HE.out]; rfl, below_drewN (Below.refl _ _) _⟩
theorem j_areaOf {w : World} {base D S M k : Nat} {E : DataW Unit} {V : Nat → Value} {q : Option (Nat × Int)} {d : DiskM} (h : DkW w base D S M k E V q d) (hb : d.sec.length ≤ 4096) (fr to : Nat) (hlt : fr < to) (hto : to ≤ d.sec.length) :
    Calls Try.prog 18 #[ptD D, .int .i64 (fr : Int), .int .i64 (to : Int)] w fun e w' => e = .returned (.tuple #[.agg (arV D fr to).toArray, .int .i64 0]) ∧ Below w.heap.size w w' := by
  obtain ⟨w1, hw1⟩ : ∃ w1, w.alloc (.cells #[.pointer none, .int .i64 0, .int .i64 0] 49) = w1 := ⟨_, rfl⟩
  have hb1 : Below w.heap.size w w1 := by rw [← hw1]; exact (Below.refl w.heap.size w).alloc (Nat.le_refl _) _
  have k1 : Blk w1 w.heap.size 49 [.pointer none, .int .i64 0, .int .i64 0] := by rw [← hw1]; exact Blk.new w _ _
  have HS := Lib.hid (d_Sectors (h.below hb1))
  have K1 := Lib.hid k1
  have K2 := Lib.hid (k1.row (arV D fr to) rfl)
  have KB := Lib.hid (below_setRow hb1 (b := w.heap.size) (Nat.le_refl _) (arV D fr to).toArray)
  have d1 : ¬ (fr : Int) < 0 := by omega
  have d2 : ¬ (to : Int) ≤ (fr : Int) := by omega
  have d3 : ¬ (d.sec.length : Int) < (to : Int) := by omega
  have e1 : decide ((fr : Int) < 0) = false := decide_eq_false d1
  have e2 : decide ((to : Int) ≤ (fr : Int)) = false := decide_eq_false d2
  have e3 : decide ((d.sec.length : Int) < (to : Int)) = false := decide_eq_false d3
  unfold ptD at HS ⊢
  unfold arV ptD at K2 KB ⊢
  clear h hb hlt hto hb1 k1
  generalize d.sec.length = n at *
  go_enter Try.func18, Try.ntmps18
  go_wp2_with (first | (go_at_call 33; (with_reducible refine HS.out.mono ?_); rintro e w2 ⟨rfl, rfl⟩) | (refine wpList_store_blk rfl 49 _ _ rfl w.heap.size [.pointer (some ⟨D, 0, none⟩), .int .i64 (fr : Int), .int .i64 (to : Int)] rfl rfl K1.out (by rw [size_ar]; rfl) rfl (by simp [Value.oneCell']) ?_))
  refine bodyPost_ret (v := .tuple #[.agg (#[.pointer (some ⟨D, 0, none⟩), .int .i64 (fr : Int), .int .i64 (to : Int)]), .int .i64 0]) (results_cell_tmp rfl _ _ w.heap.size rfl (.int .i64 0) rfl K2.out Try.underlying49 rfl (by rw [size_ar]; rfl)) rfl ⟨rfl, KB.out⟩
end Go.Proofs.Ytmonenbnjnjahaa
