/- What the laws of stage 14 ask of the program's disk and journals, as one record: a relation of a disk in memory and its journals to lists, the blocks that belong to them, and each call's contract. And 'full', and the case shown. -/
import Derived.Test.YtbobdbdknapdcaaZBln
import Derived.Test.YtbobdbdknapdcaaYNum
import Derived.Test.YtbobdbdknapdcaaZ0
namespace Go.Proofs.Ytbobdbdknapdcaa
open Go.RowKit
set_option linter.unusedVariables false

structure JurKit where
  St : Nat → World → Nat → DiskM → List (Nat × JurM) → (Nat → Prop) → Prop
  lt : ∀ {base : Nat} {w : World} {D : Nat} {d : DiskM} {js : List (Nat × JurM)} {F : Nat → Prop}, St base w D d js F → ∀ i, F i → base ≤ i ∧ i < w.heap.size
  keep : ∀ {base : Nat} {w w' : World} {D : Nat} {d : DiskM} {js : List (Nat × JurM)} {F : Nat → Prop}, St base w D d js F → w.heap.size ≤ w'.heap.size → (∀ i, F i → w'.heap[i]? = w.heap[i]?) → St base w' D d js F
  swap : ∀ {base : Nat} {w : World} {D : Nat} {d : DiskM} {a b : Nat × JurM} {js : List (Nat × JurM)} {F : Nat → Prop}, St base w D d (a :: b :: js) F → St base w D d (b :: a :: js) F
  drop : ∀ {base : Nat} {w : World} {D : Nat} {d : DiskM} {a : Nat × JurM} {js : List (Nat × JurM)} {F : Nat → Prop}, St base w D d (a :: js) F → St base w D d js F
  new_yes : ∀ (n : Nat) (w : World) (base : Nat), 1 ≤ n → n ≤ 4096 → base ≤ w.heap.size → Calls Try.prog 4 #[.int .i64 (n : Int)] w fun e w' => ∃ D F, e = .returned (ptD D) ∧ St base w' D (newD n) [] F ∧ Below w.heap.size w w' ∧ ∀ i, F i → w.heap.size ≤ i
  open_ : ∀ {base : Nat} {w : World} {D : Nat} {d : DiskM} {js : List (Nat × JurM)} {F : Nat → Prop} (h : St base w D d js F) (hb : DkJ d 50000) (hw : base ≤ w.heap.size) (fr to : Nat) (hlt : fr < to) (hto : to ≤ d.sec.length) (hbig : to ≤ 1000) (l : List (List Nat)) (u : Nat) (hs : scanK (areaD d fr (to - fr)) = (l, u)),
    Calls Try.prog 28 #[ptD D, .int .i64 (fr : Int), .int .i64 (to : Int)] w fun x w' => ∃ J p c F', x = .returned (.tuple #[ptD J, .slice p l.length c, .int .i64 0]) ∧ St base w' D d ((J, ⟨fr, to, fr + u⟩) :: js) F' ∧ Sl w' 1 (.slice p l.length c) (rowsS l) ∧ Turn base w w' F F'
  append : ∀ {base : Nat} {w : World} {D J : Nat} {d : DiskM} {m : JurM} {js : List (Nat × JurM)} {F : Nat → Prop} (h : St base w D d ((J, m) :: js) F) (hb : DkJ d 50000) (hw : base ≤ w.heap.size) (hm : m.fr ≤ m.nx ∧ m.nx ≤ m.to ∧ m.to ≤ d.sec.length) (s : ByteArray) (hs : s.size ≤ 1024) (e : Nat) (d' : DiskM) (m' : JurM) (he : apE m s.size = e) (hd : apD d m (sl s) = d') (hm' : apM m s.size = m'),
    Calls Try.prog 20 #[ptD J, .string s] w fun x w' => ∃ F', x = .returned (.int .i64 (e : Int)) ∧ St base w' D d' ((J, m') :: js) F' ∧ Turn base w w' F F'
  room : ∀ {base : Nat} {w : World} {D J : Nat} {d : DiskM} {m : JurM} {js : List (Nat × JurM)} {F : Nat → Prop} (h : St base w D d ((J, m) :: js) F) (hw : base ≤ w.heap.size) (hm : m.fr ≤ m.nx ∧ m.nx ≤ m.to ∧ m.to ≤ 4096) (r : Nat) (hr : m.to - m.nx = r),
    Calls Try.prog 23 #[ptD J] w fun x w' => x = .returned (.int .i64 (r : Int)) ∧ Below w.heap.size w w'
  clear : ∀ {base : Nat} {w : World} {D : Nat} {d : DiskM} {js : List (Nat × JurM)} {F : Nat → Prop} (h : St base w D d js F) (hb : DkJ d 50000) (hw : base ≤ w.heap.size) (fr to : Nat) (hlt : fr < to) (hto : to ≤ d.sec.length) (hbig : to ≤ 4096) (d' : DiskM) (hd : clD d fr = d'),
    Calls Try.prog 30 #[ptD D, .int .i64 (fr : Int), .int .i64 (to : Int)] w fun x w' => ∃ F', x = .returned (.int .i64 0) ∧ St base w' D d' js F' ∧ Turn base w w' F F'
namespace JurKit
variable (K : JurKit) {base : Nat} {w w' : World} {D : Nat} {d : DiskM} {js : List (Nat × JurM)} {F F' : Nat → Prop}
theorem below (h : K.St base w D d js F) (hb : Below w.heap.size w w') : K.St base w' D d js F := K.keep h hb.size fun i hi => hb.block i (K.lt h i hi).2
/-- an own slice, apart from the disk, grows -/
theorem grown (h : K.St base w D d js F) {o : Option Nat} (hg : w.grownBy w' o) (ho : ∀ b, o = some b → ¬ F b) : K.St base w' D d js F :=
  K.keep h hg.size fun i hi => hg.block i (K.lt h i hi).2 fun e => ho i e.symm hi
end JurKit
/-! ### full -/
end Go.Proofs.Ytbobdbdknapdcaa
