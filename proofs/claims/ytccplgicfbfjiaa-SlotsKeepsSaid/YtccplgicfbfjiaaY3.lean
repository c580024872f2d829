/- strings.Repeat, at this program: the library's contract, its conditions paid one by one. -/
import Derived.Test.YtccplgicfbfjiaaProg
import Derived.Shelf.Strings.Repeat
import Derived.Test.YtccplgicfbfjiaaG1
import Derived.Test.YtccplgicfbfjiaaY1
import Derived.Test.YtccplgicfbfjiaaG2
import Derived.BigQuiet
import Derived.Test.YtccplgicfbfjiaaZC
import Derived.Test.YtccplgicfbfjiaaZB
import Derived.Test.YtccplgicfbfjiaaG4
import Derived.RangeFuncNested
namespace Go.Proofs.Ytccplgicfbfjiaa
open Go.RowKit Go.Shelf
set_option linter.unusedVariables false

def repA_ren : Go.Shelf.Ren := ⟨fun | 105 => 53 | 212 => 66 | 99 => 67 | 165 => 68 | 166 => 45 | 170 => 69 | 169 => 46 | 263 => 84 | 264 => 85 | 206 => 86 | 240 => 63 | 241 => 87 | 276 => 81 | 277 => 94 | n => n, fun | 9 => 9 | 3 => 3 | 4 => 4 | 20 => 20 | 0 => 0 | 46 => 104 | 109 => 112 | 5 => 5 | 72 => 85 | 76 => 88 | 51 => 95 | 146 => 129 | 53 => 28 | 148 => 131 | 70 => 83 | 37 => 24 | 75 => 87 | 127 => 106 | 164 => 126 | 80 => 67 | n => n, fun | n => n⟩
theorem repA : Go.Proofs.Lays.n105 Try.prog repA_ren where
  mixed := by kernel_rfl
  f99 := Try.func67.trans (congrArg some (by kernel_rfl))
  f105 := Try.func53.trans (congrArg some (by kernel_rfl))
  f165 := Try.func68.trans (congrArg some (by kernel_rfl))
  f166 := Try.func45.trans (congrArg some (by kernel_rfl))
  f169 := Try.func46.trans (congrArg some (by kernel_rfl))
  f170 := Try.func69.trans (congrArg some (by kernel_rfl))
  f206 := Try.func86.trans (congrArg some (by kernel_rfl))
  f212 := Try.func66.trans (congrArg some (by kernel_rfl))
  f240 := Try.func63.trans (congrArg some (by kernel_rfl))
  f241 := Try.func87.trans (congrArg some (by kernel_rfl))
  f263 := Try.func84.trans (congrArg some (by kernel_rfl))
  f264 := Try.func85.trans (congrArg some (by kernel_rfl))
  f276 := Try.func81.trans (congrArg some (by kernel_rfl))
  f277 := Try.func94.trans (congrArg some (by kernel_rfl))
  t0 := Try.underlying0
  a0 := Try.isAgg0
  z0 := Try.sizeOf0
  v0 := Try.zeroValue0
  t3 := Try.underlying3
  a3 := Try.isAgg3
  z3 := Try.sizeOf3
  v3 := Try.zeroValue3
  t4 := Try.underlying4
  a4 := Try.isAgg4
  z4 := Try.sizeOf4
  v4 := Try.zeroValue4
  t5 := Try.underlying5
  a5 := Try.isAgg5
  z5 := Try.sizeOf5
  v5 := Try.zeroValue5
  t9 := Try.underlying9
  a9 := Try.isAgg9
  z9 := Try.sizeOf9
  v9 := Try.zeroValue9
  t20 := Try.underlying20
  a20 := Try.isAgg20
  z20 := Try.sizeOf20
  v20 := Try.zeroValue20
  t37 := Try.underlying24
  a37 := Try.isAgg24
  z37 := Try.sizeOf24
  v37 := Try.zeroValue24
  t46 := Try.underlying104
  a46 := Try.isAgg104
  z46 := Try.sizeOf104
  v46 := Try.zeroValue104
  t51 := Try.underlying95
  a51 := Try.isAgg95
  z51 := Try.sizeOf95
  v51 := Try.zeroValue95
  t53 := Try.underlying28
  a53 := Try.isAgg28
  z53 := Try.sizeOf28
  v53 := Try.zeroValue28
  t70 := Try.underlying83
  a70 := Try.isAgg83
  z70 := Try.sizeOf83
  v70 := Try.zeroValue83
  t72 := Try.underlying85
  a72 := Try.isAgg85
  z72 := Try.sizeOf85
  v72 := Try.zeroValue85
  t75 := Try.underlying87
  a75 := Try.isAgg87
  z75 := Try.sizeOf87
  v75 := Try.zeroValue87
  t76 := Try.underlying88
  a76 := Try.isAgg88
  z76 := Try.sizeOf88
  v76 := Try.zeroValue88
  t109 := Try.underlying112
  a109 := Try.isAgg112
  z109 := Try.sizeOf112
  v109 := Try.zeroValue112
  t127 := Try.underlying106
  a127 := Try.isAgg106
  z127 := Try.sizeOf106
  v127 := Try.zeroValue106
  t146 := Try.underlying129
  a146 := Try.isAgg129
  z146 := Try.sizeOf129
  v146 := Try.zeroValue129
  t148 := Try.underlying131
  a148 := Try.isAgg131
  z148 := Try.sizeOf131
  v148 := Try.zeroValue131
  t164 := Try.underlying126
  a164 := Try.isAgg126
  z164 := Try.sizeOf126
  v164 := Try.zeroValue126
theorem repX : Go.Proofs.Builder.Extra Try.prog repA_ren where
  sizeBuilder := by kernel_rfl
  liesBuilder := by kernel_rfl
  t5 := Try.underlying5
  a5 := Try.isAgg5
  z5 := Try.sizeOf5
  v5 := Try.zeroValue5
  infoByte := by kernel_rfl
  cellsByte := by kernel_rfl
  sizeByte := by kernel_rfl
  neB5 := by decide
theorem repeat_zer (k : Nat) : (⟨(Lib.repeatL [(0 : UInt8)] k).toArray⟩ : ByteArray) = tx (zerN k) := by
  have h : ∀ k, Lib.repeatL [(0 : UInt8)] k = List.replicate k 0 := fun k => by
    induction k with
    | zero => rfl
    | succ k ih => rw [Lib.repeatL, ih, List.replicate_succ]; rfl
  have e : sl ⟨(Lib.repeatL [(0 : UInt8)] k).toArray⟩ = zerN k := by
    rw [h]
    unfold sl zerN
    simp
  rw [← e, tx_sl]
theorem j_Repeat (k : Nat) (hk : k ≤ 1000000) (w : World) :
    Calls Try.prog 53 #[.string ⟨#[0]⟩, .int .i64 (k : Int)] w fun e w' => e = .returned (.string (tx (zerN k))) ∧ Below w.heap.size w w' := by
  have := Go.Proofs.Any.strings_Repeat repA repX ⟨#[0]⟩ k w (by omega) (by show 1 * k ≤ _; omega)
  rw [← repeat_zer]
  exact this
end Go.Proofs.Ytccplgicfbfjiaa
namespace Go.Proofs.Ytccplgicfbfjiaa
open Go.RowKit Go.Shelf
set_option linter.unusedVariables false

attribute [local go_sem] Oper.semAt_some

theorem piece_txJ (s : ByteArray) (i : Nat) : s.extract (32 * i) (32 * i + 32) = tx (pcJ (sl s) i) := by
  rw [← tx_sl (s.extract (32 * i) (32 * i + 32))]
  congr 1
  simp [pcJ, sl, ByteArray.data_extract, List.map_take, List.map_drop]
end Go.Proofs.Ytccplgicfbfjiaa
namespace Go.Proofs.Ytccplgicfbfjiaa
open Go.RowKit Go.Shelf
set_option linter.unusedVariables false

attribute [local go_sem] Oper.semAt_some

/-- a disk's own blocks are cells, all but its map -/
theorem DkW.cellsOr {w : World} {base D S M k : Nat} {E : DataW Unit} {V : Nat → Value} {q : Option (Nat × Int)} {d : DiskM} (h : DkW w base D S M k E V q d) {i : Nat} (hi : foot D S M V q i) : i = M ∨ ∀ o, w.heap[i]? = some o → o.isCells = true := by
  have hblk : ∀ {b : Nat} {t : TypeId} {vs : List Value}, Blk w b t vs → ∀ o, w.heap[b]? = some o → o.isCells = true := fun hb o ho => by
    unfold Blk at hb
    rw [hb] at ho
    cases ho
    rfl
  rcases hi with e | e | e | e | ⟨j, e⟩
  · exact .inr (e ▸ hblk h.blk)
  · exact .inr (e ▸ hblk h.sec)
  · exact .inl e
  · obtain ⟨⟨L, l⟩, e1, e2⟩ := Option.map_eq_some_iff.1 e
    obtain rfl : L = i := e2
    exact .inr (hblk (h.left _ _ e1).1)
  · refine .inr fun o ho => ?_
    rcases (h.own j).2.2 with ⟨hv, _⟩ | ⟨g, cap, cur, hv, hg, hh, r⟩
    · rw [hv] at e; cases e
    · rw [hv] at e
      cases e
      rw [hh] at ho
      cases ho
      rfl
/-- all that is known of a disk that is being written to -/
def DkA (base : Nat) (w : World) (W : World) (D S M : Nat) (F : Nat → Prop) (d : DiskM) : Prop :=
  ∃ k E V q, DkW W base D S M k E V q d ∧ Turn base w W F (foot D S M V q)
theorem DkA.kept {base : Nat} {w W W' : World} {D S M : Nat} {F : Nat → Prop} {d : DiskM} {B : Nat} {row : Option Nat} (h : DkA base w W D S M F d) (hw : base ≤ w.heap.size) (hM : M < B) (hB : w.heap.size ≤ B) (hg : W.grownBy W' row)
    (hr : ∀ r, row = some r → B ≤ r ∧ ∃ o : Obj, W.heap[r]? = some o ∧ o.isCells = false) : DkA base w W' D S M F d := by
  obtain ⟨k, E, V, q, h1, h2⟩ := h
  refine ⟨k, E, V, q, h1.keep fun i hi => hg.block i (h1.lt i hi).2 fun e => ?_, ⟨h2.b.grown hg (Nat.le_trans hw h2.b.size) (fun r e => by have := (hr r e).1; omega), fun i hi hn => (hg.block i (by have := h2.b.size; omega) (fun e => by have := (hr i e.symm).1; omega)).trans (h2.out i hi hn), h2.new⟩⟩
  obtain ⟨hb, o, ho, hc⟩ := hr i e.symm
  rcases h1.cellsOr hi with rfl | hx
  · omega
  · rw [hx o ho] at hc; cases hc
theorem KeepsFrom.of_turn {base B : Nat} {W W' : World} {D S M k : Nat} {E : DataW Unit} {V : Nat → Value} {q : Option (Nat × Int)} {d : DiskM} {F' : Nat → Prop} (h : DkW W base D S M k E V q d) (hM : M < B) (t : Turn base W W' (foot D S M V q) F') : KeepsFrom B W W' :=
  ⟨t.b.size, fun i o hi ho hc => by
    refine (t.out i (Array.getElem?_eq_some_iff.1 ho).1 fun hf => ?_).trans ho
    rcases h.cellsOr hf with rfl | hx
    · omega
    · rw [hx o ho] at hc; cases hc⟩
theorem DkA.below {base : Nat} {w W W' : World} {D S M : Nat} {F : Nat → Prop} {d : DiskM} (h : DkA base w W D S M F d) (hb : Below W.heap.size W W') (hw : base ≤ w.heap.size) : DkA base w W' D S M F d := by
  obtain ⟨k, E, V, q, h1, h2⟩ := h
  exact ⟨k, E, V, q, h1.below hb, h2.trans (Turn.of_below hb (Nat.le_trans hw h2.b.size))⟩
/-- a block of another type is none of a disk's, where power lasts -/
theorem DkW.notTy {w : World} {base D S M k : Nat} {E : DataW Unit} {V : Nat → Value} {q : Option (Nat × Int)} {d : DiskM} (h : DkW w base D S M k E V q d) (hcut : d.cut = false) {b : Nat} {ty : TypeId} {vs : List Value} (hb : Blk w b ty vs) (h1 : ty ≠ 48) (h2 : ty ≠ 64) : ¬ foot D S M V q b := by
  have hb' := hb
  unfold Blk at hb'
  rintro (rfl | rfl | rfl | e | ⟨j, e⟩)
  · have h3 := h.blk
    unfold Blk at h3
    rw [hb'] at h3
    cases h3
    exact h1 rfl
  · have h3 := h.sec
    unfold Blk at h3
    rw [hb'] at h3
    cases h3
    exact h2 rfl
  · obtain ⟨es, clock, hm, _⟩ := h.pen.map
    rw [hb'] at hm
    simp at hm
  · obtain ⟨⟨L, l⟩, e1, e2⟩ := Option.map_eq_some_iff.1 e
    have hp := h.pw
    rw [e1] at hp
    exact absurd hp.1 (by rw [hcut]; decide)
  · exact (h.own j).ne hb h2 b e rfl
theorem results_cell1 {P : Program} {fn : Func} {p : Tmp} {ty : TypeId} (h : fn.results = #[.cell p ty]) (tmps : Array Value) (w : World) (g : Nat)
    (hp : tmps.getD p undef = .pointer (some ⟨g, 0, none⟩)) {x : Value} {d : TypeDesc} (hc : w.cell? ⟨g, 0, none⟩ = some x)
    (hu : P.underlying ty = some d) (hd : d.isRow = false) : (results fn tmps).run P w = .ok x w := by
  have hp' : tmps[p]?.getD undef = .pointer (some ⟨g, 0, none⟩) := by simpa using hp
  simp [results, h, hp', asAddr, run_loadVar_one w _ ty x d hc hu hd]
theorem cut_on {d : DiskM} (h : d.cut = false) : offD d = false := by unfold offD; rw [h]; rfl
end Go.Proofs.Ytccplgicfbfjiaa
namespace Go.Proofs.Ytccplgicfbfjiaa
open Go.RowKit Go.Shelf
set_option linter.unusedVariables false

theorem putD_zero (d : DiskM) (a : Nat) : putD d a 1 [0] = syncD (writeD d a (zerN 32)) := by
  have : chunksK 1 (fillJ [0] 1) = [zerN 32] := by decide
  unfold putD
  rw [this]
  rfl
theorem DkA.after {base : Nat} {w W W' : World} {D S M : Nat} {F F' : Nat → Prop} {d : DiskM} (h : DkA base W W' D S M F' d) (t : Turn base w W F F') : DkA base w W' D S M F d := by
  obtain ⟨k, E, V, q, h1, h2⟩ := h
  exact ⟨k, E, V, q, h1, t.trans h2⟩
end Go.Proofs.Ytccplgicfbfjiaa
namespace Go.Proofs.Ytccplgicfbfjiaa
open Go.RowKit Go.Shelf
set_option linter.unusedVariables false

theorem dkn_apD1 {d : DiskM} {K : Nat} (h : DkN d K) (m : JurM) (n : Nat) (ht : m.to ≤ d.sec.length) : DkN (apD1 d m n) (K + 2) ∧ (apD1 d m n).cut = d.cut := by
  unfold apD1
  split
  · exact ⟨dkn_sync1 (dkn_write1 h (by omega) (zerN_len 32) (zer_bys 32)), rfl⟩
  · exact ⟨h.more (by omega), rfl⟩
theorem apD_put (d : DiskM) (m : JurM) (s : ByteArray) (h : secK s.size ≤ m.to - m.nx) : putD (apD1 d m s.size) m.nx (secK s.size) (sl (tx (frameK (sl s)))) = apD d m (sl s) := by
  rw [sl_tx (frame_bys (sl_bys s))]
  unfold apD putD apE
  rw [sl_len, if_pos (by rw [if_pos h])]
  unfold fillJ padK
  rw [frame_len, sl_len]
end Go.Proofs.Ytccplgicfbfjiaa
