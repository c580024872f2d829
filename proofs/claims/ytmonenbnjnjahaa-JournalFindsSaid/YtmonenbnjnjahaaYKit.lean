/- What the laws of stage 14 ask of the program's disk and journals, as one record: a relation of a disk in memory and its journals to lists, the blocks that belong to them, and each call's contract. And 'full', and the case shown. -/
import Derived.Test.YtmonenbnjnjahaaZBln
import Derived.Test.YtmonenbnjnjahaaYNum
import Derived.Test.YtmonenbnjnjahaaZ0
namespace Go.Proofs.Ytmonenbnjnjahaa
open Go.RowKit
set_option linter.unusedVariables false

structure JurKit where
  St : Nat → World → Nat → DiskM → List (Nat × JurM) → (Nat → Prop) → Prop
  lt : ∀ {base : Nat} {w : World} {D : Nat} {d : DiskM} {js : List (Nat × JurM)} {F : Nat → Prop}, St base w D d js F → ∀ i, F i → base ≤ i ∧ i < w.heap.size
  keep : ∀ {base : Nat} {w w' : World} {D : Nat} {d : DiskM} {js : List (Nat × JurM)} {F : Nat → Prop}, St base w D d js F → w.heap.size ≤ w'.heap.size → (∀ i, F i → w'.heap[i]? = w.heap[i]?) → St base w' D d js F
  swap : ∀ {base : Nat} {w : World} {D : Nat} {d : DiskM} {a b : Nat × JurM} {js : List (Nat × JurM)} {F : Nat → Prop}, St base w D d (a :: b :: js) F → St base w D d (b :: a :: js) F
  drop : ∀ {base : Nat} {w : World} {D : Nat} {d : DiskM} {a : Nat × JurM} {js : List (Nat × JurM)} {F : Nat → Prop}, St base w D d (a :: js) F → St base w D d js F
  new_yes : ∀ (n : Nat) (w : World) (base : Nat), 1 ≤ n → n ≤ 4096 → base ≤ w.heap.size → Calls Try.prog 7 #[.int .i64 (n : Int)] w fun e w' => ∃ D F, e = .returned (ptD D) ∧ St base w' D (newD n) [] F ∧ Below w.heap.size w w' ∧ ∀ i, F i → w.heap.size ≤ i
  open_ : ∀ {base : Nat} {w : World} {D : Nat} {d : DiskM} {js : List (Nat × JurM)} {F : Nat → Prop} (h : St base w D d js F) (hb : DkJ d 50000) (hw : base ≤ w.heap.size) (fr to : Nat) (hlt : fr < to) (hto : to ≤ d.sec.length) (hbig : to ≤ 1000) (l : List (List Nat)) (u : Nat) (hs : scanK (areaD d fr (to - fr)) = (l, u)),
    Calls Try.prog 8 #[ptD D, .int .i64 (fr : Int), .int .i64 (to : Int)] w fun x w' => ∃ J p c F', x = .returned (.tuple #[ptD J, .slice p l.length c, .int .i64 0]) ∧ St base w' D d ((J, ⟨fr, to, fr + u⟩) :: js) F' ∧ Sl w' 1 (.slice p l.length c) (rowsS l) ∧ Turn base w w' F F'
  append : ∀ {base : Nat} {w : World} {D J : Nat} {d : DiskM} {m : JurM} {js : List (Nat × JurM)} {F : Nat → Prop} (h : St base w D d ((J, m) :: js) F) (hb : DkJ d 50000) (hw : base ≤ w.heap.size) (hm : m.fr ≤ m.nx ∧ m.nx ≤ m.to ∧ m.to ≤ d.sec.length) (s : ByteArray) (hs : s.size ≤ 1024) (e : Nat) (d' : DiskM) (m' : JurM) (he : apE m s.size = e) (hd : apD d m (sl s) = d') (hm' : apM m s.size = m'),
    Calls Try.prog 9 #[ptD J, .string s] w fun x w' => ∃ F', x = .returned (.int .i64 (e : Int)) ∧ St base w' D d' ((J, m') :: js) F' ∧ Turn base w w' F F'
  room : ∀ {base : Nat} {w : World} {D J : Nat} {d : DiskM} {m : JurM} {js : List (Nat × JurM)} {F : Nat → Prop} (h : St base w D d ((J, m) :: js) F) (hw : base ≤ w.heap.size) (hm : m.fr ≤ m.nx ∧ m.nx ≤ m.to ∧ m.to ≤ 4096) (r : Nat) (hr : m.to - m.nx = r),
    Calls Try.prog 10 #[ptD J] w fun x w' => x = .returned (.int .i64 (r : Int)) ∧ Below w.heap.size w w'
  used : ∀ {base : Nat} {w : World} {D J : Nat} {d : DiskM} {m : JurM} {js : List (Nat × JurM)} {F : Nat → Prop} (h : St base w D d ((J, m) :: js) F) (hw : base ≤ w.heap.size) (hm : m.fr ≤ m.nx ∧ m.nx ≤ m.to ∧ m.to ≤ 4096) (r : Nat) (hr : m.nx - m.fr = r),
    Calls Try.prog 13 #[ptD J] w fun x w' => x = .returned (.int .i64 (r : Int)) ∧ Below w.heap.size w w'
  clear : ∀ {base : Nat} {w : World} {D : Nat} {d : DiskM} {js : List (Nat × JurM)} {F : Nat → Prop} (h : St base w D d js F) (hb : DkJ d 50000) (hw : base ≤ w.heap.size) (fr to : Nat) (hlt : fr < to) (hto : to ≤ d.sec.length) (hbig : to ≤ 4096) (d' : DiskM) (hd : clD d fr = d'),
    Calls Try.prog 16 #[ptD D, .int .i64 (fr : Int), .int .i64 (to : Int)] w fun x w' => ∃ F', x = .returned (.int .i64 0) ∧ St base w' D d' js F' ∧ Turn base w w' F F'
  crash : ∀ {base : Nat} {w : World} {D : Nat} {d : DiskM} {js : List (Nat × JurM)} {F : Nat → Prop} (h : St base w D d js F) (hb : DkJ d 50000) (hw : base ≤ w.heap.size) (keep : List Nat) (p : Option Addr) (c : Nat) (hk : keep.length ≤ 1000) (hy : Bys keep) (hS : Sl w 1 (.slice p keep.length c) (rowsU .u8 keep)) (hka : 0 < keep.length → ∀ a, p = some a → a.block < base) (d' : DiskM) (hd : crashD d keep = d'),
    Calls Try.prog 11 #[ptD D, .slice p keep.length c] w fun x w' => ∃ F', x = .returned (.tuple #[]) ∧ St base w' D d' js F' ∧ Turn base w w' F F'
  safe : ∀ {base : Nat} {w : World} {D : Nat} {d : DiskM} {js : List (Nat × JurM)} {F : Nat → Prop} (h : St base w D d js F) (hb : DkJ d 50000) (hw : base ≤ w.heap.size) (i : Int) (hi : (Lit.int .i64 i).wf = true) (s : ByteArray) (he : sfD d i = sl s),
    Calls Try.prog 14 #[ptD D, .int .i64 i] w fun x w' => x = .returned (.string s) ∧ Below w.heap.size w w'
namespace JurKit
variable (K : JurKit) {base : Nat} {w w' : World} {D : Nat} {d : DiskM} {js : List (Nat × JurM)} {F F' : Nat → Prop}
theorem below (h : K.St base w D d js F) (hb : Below w.heap.size w w') : K.St base w' D d js F := K.keep h hb.size fun i hi => hb.block i (K.lt h i hi).2
/-- an own slice, apart from the disk, grows -/
theorem grown (h : K.St base w D d js F) {o : Option Nat} (hg : w.grownBy w' o) (ho : ∀ b, o = some b → ¬ F b) : K.St base w' D d js F :=
  K.keep h hg.size fun i hi => hg.block i (K.lt h i hi).2 fun e => ho i e.symm hi
end JurKit
/-! ### full -/
set_option maxRecDepth 100000 in
theorem l14_full (s : ByteArray) (w : World) (hs : s.size ≤ 65536) : Calls Try.prog 15 #[.string s] w fun e w' => e = .returned (.string (fullT s)) ∧ Below w.heap.size w w' := by
  have HB := Lib.hid (r13_Blank w)
  have hz : (tx (zerN 32)).size = 32 := by rw [tx_size, zerN_len]
  have hsz : (s ++ tx (zerN 32)).size = s.size + 32 := by rw [ByteArray.size_append, hz]
  have hadd := fun w' => run_string_add_sum (P := Try.prog) w' s (tx (zerN 32)) (by rw [hz]; omega)
  have hx : (s ++ tx (zerN 32)).extract 0 32 = fullT s := by
    rw [head_tx]
    unfold fullT
    have : sl (s ++ tx (zerN 32)) = sl s ++ zerN 32 := by
      have h1 : s = tx (sl s) := (tx_sl s).symm
      conv => lhs; rw [h1, ← tx_app]
      exact sl_tx ((sl_bys s).app (Bys.of fun x hx => by rw [List.eq_of_mem_replicate hx]; decide))
    rw [this]
  have i1 : (32 : Int) ≤ ((s ++ tx (zerN 32)).size : Int) := by omega
  generalize tx (zerN 32) = Z at *
  generalize hU : s ++ Z = U at *
  have HX := Lib.hid hx
  clear hz hsz hU
  go_enter Try.func15, Try.ntmps15
  go_wp2_with fail
  refine HB.out.mono ?_
  rintro e w1 ⟨rfl, hb1⟩
  have G1 := Lib.hid hb1
  clear hb1
  go_wp2
  go_ret
  exact ⟨by first | rfl | rw [HX.out], G1.out⟩
end Go.Proofs.Ytmonenbnjnjahaa
