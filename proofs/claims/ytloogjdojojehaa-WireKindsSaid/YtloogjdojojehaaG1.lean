/- Blocks of memory that are known whole, as lists of values: small facts for walks over local arrays. -/
import Derived.WalkKit
import Derived.WalkSpells
import Derived.WalkLawsBesides
import Derived.WalkSmall
import Derived.Deep.QuietTactic
import Derived.BigQuiet
import Derived.Deep.MidRow
import Derived.Deep.OwnRows
import Derived.Lib.ConvBytes
import Derived.ArgAppend
import Derived.Lib.Hide
import Derived.OpenShut
import Derived.StillTail
import Derived.Deep.Quiet
import Derived.StillTailTactics
import Derived.RangeFuncNested
import Derived.RangeFuncBound
import Derived.RangeFuncCalls
import Derived.RangeFuncLeaves
import Derived.RangeFuncFrom
import Derived.Shelf.Abstract
import Derived.Shelf.RegionOpen
import Derived.OwnWalkIn
import Derived.TacticsInMore
import Derived.LoopNIn
import Derived.LoopIn
import Derived.Below
import Derived.Stop.BytesEq
import Derived.Lib.BufferWrite
namespace Go.Proofs.Ytloogjdojojehaa
open Go.RowKit
set_option linter.unusedVariables false

/-- block b of w holds just vs, and may be written. -/
def Blk (w : World) (b : Nat) (t : TypeId) (vs : List Value) : Prop := w.heap[b]? = some (.cells vs.toArray t (0, 0))

def ints (k : IntKind) (l : List Int) : List Value := l.map (Value.int k)

theorem ints_length (k : IntKind) (l : List Int) : (ints k l).length = l.length := by simp [ints]
theorem ints_set (k : IntKind) (l : List Int) (j : Nat) (x : Int) : (ints k l).set j (.int k x) = ints k (l.set j x) := by
  unfold ints; rw [List.map_set]
theorem ints_get (k : IntKind) (l : List Int) (j : Nat) (h : j < l.length) : (ints k l)[j]? = some (.int k (l.getD j 0)) := by
  unfold ints; rw [List.getElem?_map, List.getElem?_eq_getElem h]; simp [h]

namespace Blk
variable {w w' : World} {b : Nat} {t : TypeId} {vs : List Value}
theorem lt (h : Blk w b t vs) : b < w.heap.size := by
  unfold Blk at h
  by_cases hb : b < w.heap.size
  · exact hb
  · rw [Array.getElem?_eq_none (by omega)] at h; cases h
theorem cell (h : Blk w b t vs) (j : Nat) : w.cell? ⟨b, j, none⟩ = vs[j]? := by
  unfold Blk at h
  simp [World.cell?, h]
theorem free (h : Blk w b t vs) (j : Nat) : w.frozen? ⟨b, j, none⟩ = false := by
  unfold Blk at h
  simp [World.frozen?, h]
theorem int {k : IntKind} {l : List Int} (h : Blk w b t (ints k l)) {j : Nat} (hj : j < l.length) : w.cell? ⟨b, j, none⟩ = some (.int k (l.getD j 0)) := by
  rw [h.cell, ints_get k l j hj]
theorem set (h : Blk w b t vs) (j : Nat) (v : Value) : Blk (w.setCell ⟨b, j, none⟩ v) b t (vs.set j v) := by
  have hb := h.lt
  unfold Blk at h ⊢
  simp only [World.setCell]
  rw [Array.getElem?_modify]
  simp [h]
theorem setInt {k : IntKind} {l : List Int} (h : Blk w b t (ints k l)) (j : Nat) (x : Int) : Blk (w.setCell ⟨b, j, none⟩ (.int k x)) b t (ints k (l.set j x)) := by
  have := h.set j (.int k x)
  rwa [ints_set] at this
theorem other (h : Blk w b t vs) {a : Addr} (ha : a.block ≠ b) (v : Value) : Blk (w.setCell a v) b t vs := by
  unfold Blk at h ⊢
  rw [Below.heap_setCell w a v b (fun e => ha e.symm)]; exact h
theorem alloc (h : Blk w b t vs) (o : Obj) : Blk (w.alloc o) b t vs := by
  have hb := h.lt
  unfold Blk at h ⊢
  rw [Below.heap_alloc w o b hb]; exact h
theorem new (w : World) (t : TypeId) (vs : List Value) : Blk (w.alloc (.cells vs.toArray t)) w.heap.size t vs := by
  unfold Blk; exact heap_alloc_new w _
theorem new' (w : World) (t : TypeId) {c : Array Value} (vs : List Value) (hc : c = vs.toArray) : Blk (w.alloc (.cells c t)) w.heap.size t vs := by
  subst hc; exact new w t vs
theorem new2 (w : World) (A : Obj) (t : TypeId) {c : Array Value} (vs : List Value) (hc : c = vs.toArray) : Blk ((w.alloc A).alloc (.cells c t)) (w.heap.size + 1) t vs := by
  have h := new' (w.alloc A) t vs hc
  have e : (w.alloc A).heap.size = w.heap.size + 1 := by
    show (w.heap.push A).size = _
    simp
  rwa [e] at h
theorem below {B : Nat} (h : Blk w b t vs) (hB : Below B w w') (hb : b < B) : Blk w' b t vs := by
  unfold Blk at h ⊢
  rw [hB.block b hb]; exact h
theorem drew (h : Blk w b t vs) : Blk w.drew b t vs := h
theorem drewN (h : Blk w b t vs) (n : Nat) : Blk (w.drewN n) b t vs := h
theorem row (h : Blk w b t vs) (cs : List Value) (hl : cs.length = vs.length) : Blk (w.setRow b cs.toArray) b t cs := by
  unfold Blk at h ⊢
  exact setRow_heap w b _ _ t _ h
theorem whole (h : Blk w b t vs) : w.rangeAt b 0 vs := by
  intro j v hv
  rw [h.cell, Nat.zero_add]
  exact hv
theorem rowOther (h : Blk w b t vs) {g : Nat} (hg : b ≠ g) (cs : Array Value) : Blk (w.setRow g cs) b t vs := by
  unfold Blk at h ⊢
  rw [setRow_other w g b cs hg]; exact h
end Blk

theorem below_setRow {B : Nat} {a w : World} (h : Below B a w) {b : Nat} (hb : B ≤ b) (cs : Array Value) : Below B a (w.setRow b cs) := by
  refine h.trans ⟨rfl, rfl, rfl, by simp, fun k hk => ?_⟩
  exact setRow_other w b k cs (by omega)

theorem ints_one (k : IntKind) (l : List Int) : (ints k l).toArray.all (·.oneCell') = true := by
  rw [Array.all_eq_true_iff_forall_mem]
  intro v hv
  simp [ints] at hv
  obtain ⟨n, _, rfl⟩ := hv
  rfl
theorem run_index_ints {P : Program} (t e : TypeId) (n : Nat) (k kk : IntKind) (l : List Int) (j : Nat) (h : P.underlying t = some (.array n e)) (hi : ∃ q, P.underlying e = some q ∧ (match q with | .struct _ | .array _ _ => false | _ => true) = true) (hs : (P.info? e).map (·.size) = some 1) (hl : l.length = n) (hj : j < n) (w : World) :
    (Instr.index t (.agg (ints k l).toArray) (.int kk (j : Int))).run P w = .ok (.int k (l.getD j 0)) w := by
  obtain ⟨q, hq, hd⟩ := hi
  unfold Instr.index
  have hjl : j < l.length := by omega
  have hg : (ints k l)[j]? = some (.int k (l.getD j 0)) := ints_get k l j hjl
  cases hin : P.info? e with
  | none => simp [hin] at hs
  | some i0 =>
    have hsz : i0.size = 1 := by simpa [hin] using hs
    have hagg : (isAgg e).run P w = .ok false w := by
      unfold isAgg
      rw [Sem.run_bind, run_underlying hq w]
      cases q <;> simp_all
    simp [asIntOf, Sem.run_bind, run_underlying h w, sizeOf, typeInfo, hin, hsz, part, hagg, hj, hg]
section
variable {P : Program} {ops : Array Oper} {rest : List Oper} {o : Oper} {a : Act} {w : World} {Q : Exit → Act → World → Prop}
/-- the whole of a block is read -/
theorem wpList_load_blk (hgd : o.guard = none) (ty : TypeId) (x : Operand) (ho : o.op = .load ty x)
    (g : Nat) (hx : a.eval x = .pointer (some ⟨g, 0, none⟩)) {t : TypeId} {cs : List Value} {d : TypeDesc} (hg : Blk w g t cs)
    (hu : P.underlying ty = some d) (hd : (match d with | .struct _ | .array _ _ => true | _ => false) = true) (hi : (P.info? ty).map (·.size) = some cs.length)
    (h : wpList P ops Q rest (a.put o.dst (.agg cs.toArray)) w) : wpList P ops Q (o :: rest) a w :=
  wpList_load_row hgd ty x ho g hx t cs.toArray (0, 0) d hg hu hd (by simpa using hi) h
/-- the whole of a block is written -/
theorem wpList_store_blk (hgd : o.guard = none) (ty : TypeId) (x y : Operand) (ho : o.op = .store ty x y)
    (g : Nat) (cs : List Value) (hx : a.eval x = .pointer (some ⟨g, 0, none⟩)) (hy : a.eval y = .agg cs.toArray)
    {t : TypeId} {old : List Value} (hg : Blk w g t old) (hi : (P.info? ty).map (·.size) = some cs.length)
    (hold : old.length = cs.length) (h1 : cs.toArray.all (·.oneCell') = true)
    (h : wpList P ops Q rest (a.put o.dst undef) (w.setRow g cs.toArray)) : wpList P ops Q (o :: rest) a w :=
  wpList_store_row hgd ty x y ho g cs.toArray hx hy t old.toArray hg (by simpa using hi) (by simpa using hold) h1 h
theorem results_cell_blk {fn : Func} {p : Tmp} {ty : TypeId} (h : fn.results = #[.cell p ty]) (tmps : Array Value) (w : World) (g : Nat)
    (hp : tmps.getD p undef = .pointer (some ⟨g, 0, none⟩)) {t : TypeId} {cs : List Value} {d : TypeDesc} (hg : Blk w g t cs)
    (hu : P.underlying ty = some d) (hd : (match d with | .struct _ | .array _ _ => true | _ => false) = true) (hi : (P.info? ty).map (·.size) = some cs.length) :
    (results fn tmps).run P w = .ok (.agg cs.toArray) w :=
  results_cell_row h tmps w g t cs.toArray (0, 0) d hp hg hu hd (by simpa using hi)
end

end Go.Proofs.Ytloogjdojojehaa
namespace Go.Proofs.Ytloogjdojojehaa
open Go.RowKit
set_option linter.unusedVariables false

theorem ints_app (k : IntKind) (a b : List Int) : ints k (a ++ b) = ints k a ++ ints k b := by simp [ints]
theorem Blk.range {w : World} {b : Nat} {t : TypeId} {x y z : List Value} (h : Blk w b t (x ++ y ++ z)) : w.rangeAt b x.length y := by
  intro j v hv
  rw [h.cell, List.append_assoc, List.getElem?_append_right (by omega)]
  have hj : j < y.length := by
    rcases Nat.lt_or_ge j y.length with h' | h'
    · exact h'
    · rw [List.getElem?_eq_none h'] at hv; cases hv
  rw [show x.length + j - x.length = j by omega, List.getElem?_append_left hj]
  exact hv

/-- the string of these bytes -/
def bs (l : List Int) : ByteArray := ⟨(l.map fun n => UInt8.ofNat n.toNat).toArray⟩
theorem bs_size (l : List Int) : (bs l).size = l.length := by simp [bs, ByteArray.size]
theorem bs_fold (l : List Int) : l.foldl (fun (r : ByteArray) n => r.push (UInt8.ofNat n.toNat)) ByteArray.empty = bs l := by
  have : ∀ (l : List Int) (r : ByteArray), l.foldl (fun (r : ByteArray) n => r.push (UInt8.ofNat n.toNat)) r = ⟨r.data ++ (l.map fun n => UInt8.ofNat n.toNat).toArray⟩ := by
    intro l
    induction l with
    | nil => intro r; simp
    | cons x l ih =>
      intro r
      rw [List.foldl_cons, ih]
      simp [ByteArray.push]
  rw [this]; simp [bs, ByteArray.empty, ByteArray.emptyWithCapacity]; rfl
/-- its bytes as integers -/
def is (s : ByteArray) : List Int := s.data.toList.map fun b => (b.toNat : Int)
theorem is_length (s : ByteArray) : (is s).length = s.size := by simp [is]
def Octets (l : List Int) : Prop := ∀ n ∈ l, 0 ≤ n ∧ n < 256
theorem is_octets (s : ByteArray) : Octets (is s) := by
  intro n hn
  simp only [is, List.mem_map] at hn
  obtain ⟨b, _, rfl⟩ := hn
  have := b.toNat_lt
  omega
theorem is_bs (l : List Int) (h : Octets l) : is (bs l) = l := by
  simp only [is, bs, List.map_map]
  have : ∀ n ∈ l, ((fun b : UInt8 => (b.toNat : Int)) ∘ fun n : Int => UInt8.ofNat n.toNat) n = n := by
    intro n hn
    obtain ⟨h0, h1⟩ := h n hn
    simp only [Function.comp, UInt8.toNat_ofNat']
    omega
  calc l.map _ = l.map id := List.map_congr_left this
    _ = l := by simp
theorem bs_is (s : ByteArray) : bs (is s) = s := by
  simp only [is, bs, List.map_map]
  have : ((fun n : Int => UInt8.ofNat n.toNat) ∘ fun b : UInt8 => (b.toNat : Int)) = id := by
    funext b; simp
  rw [this]; simp
theorem bs_app (a b : List Int) : bs (a ++ b) = bs a ++ bs b := by
  apply ByteArray.ext
  simp [bs]
theorem is_app (a b : ByteArray) : is (a ++ b) = is a ++ is b := by
  simp [is, ByteArray.data_append]

section
variable {P : Program} {ops : Array Oper} {rest : List Oper} {o : Oper} {a : Act} {w : World} {Q : Exit → Act → World → Prop}
theorem run_bytes_string (src dst e : TypeId) (b n cap : Nat) (l : List Int) (hs : P.underlying src = some (.slice e)) (he : P.underlying e = some (.int .u8)) (hd : P.underlying dst = some .string)
    (hc : w.rangeAt b 0 (ints .u8 l)) (hn : n = l.length) :
    (convert src dst (.slice (some ⟨b, 0, none⟩) n cap)).run P w = .ok (.string (bs l)) w := by
  subst hn
  rw [run_convert_bytes_string w src dst e _ _ _ hs he hd, ← bs_fold]
  refine run_bytesToString w ⟨b, 0, none⟩ l.length cap l ?_
  have := run_loadCells_list (P := P) w ⟨b, 0, none⟩ (ints .u8 l) (fun j v hv => by rw [Addr.add_mid]; exact hc j v hv)
  simpa [ints] using this
theorem wpList_bytes_string (hgd : o.guard = none) (src dst e : TypeId) (x : Operand) (ho : o.op = .convert src dst x) (b n cap : Nat) (l : List Int)
    (hx : a.eval x = .slice (some ⟨b, 0, none⟩) n cap) (hs : P.underlying src = some (.slice e)) (he : P.underlying e = some (.int .u8)) (hd : P.underlying dst = some .string)
    (hc : w.rangeAt b 0 (ints .u8 l)) (hn : n = l.length) (h : wpList P ops Q rest (a.put o.dst (.string (bs l))) w) : wpList P ops Q (o :: rest) a w :=
  wpList_plain hgd fun _ hK => by
    unfold Oper.wp execOp
    simp only [ho, hx, Sem.run_bind, run_bytes_string (P := P) (w := w) src dst e b n cap l hs he hd hc hn, Result.andThen_ok]
    exact hK _ _ h
end
end Go.Proofs.Ytloogjdojojehaa
namespace Go.Proofs.Ytloogjdojojehaa
open Go.RowKit
set_option linter.unusedVariables false

/-- the slice value v is the call's own and has the bytes l; e: the element's type -/
def OwnB (w : World) (base : Nat) (e : TypeId) (v : Value) (l : List Int) : Prop := w.ownsRow base e 1 v l.length (ints .u8 l)

theorem OwnB.nil (w : World) (base : Nat) (e : TypeId) : OwnB w base e (.slice none 0 0) [] := World.ownsRow_nil w base e 1
theorem OwnB.below {w w' : World} {B base : Nat} {e : TypeId} {v : Value} {l : List Int} (h : OwnB w base e v l) (hb : Below B w w') (hB : ∀ k, v.ownBlock = some k → k < B) : OwnB w' base e v l := by
  obtain ⟨h1, h2⟩ := h
  refine ⟨h1, ?_⟩
  rcases h2 with h2 | ⟨g, cap, cur, hv, hg, hh, r⟩
  · exact .inl h2
  · refine .inr ⟨g, cap, cur, hv, hg, ?_, r⟩
    rw [hb.block g (hB g (by rw [hv]; rfl))]; exact hh
theorem OwnB.lt {w : World} {base : Nat} {e : TypeId} {v : Value} {l : List Int} (h : OwnB w base e v l) : ∀ k, v.ownBlock = some k → base ≤ k ∧ k < w.heap.size := World.ownsRow.lt h
theorem OwnB.alloc {w : World} {base : Nat} {e : TypeId} {v : Value} {l : List Int} (h : OwnB w base e v l) (o : Obj) : OwnB (w.alloc o) base e v l := World.ownsRow.alloc h o
theorem OwnB.drew {w : World} {base : Nat} {e : TypeId} {v : Value} {l : List Int} (h : OwnB w base e v l) : OwnB w.drew base e v l := h
theorem OwnB.drewN {w : World} {base : Nat} {e : TypeId} {v : Value} {l : List Int} (h : OwnB w base e v l) (n : Nat) : OwnB (w.drewN n) base e v l := h
theorem OwnB.len {w : World} {base : Nat} {e : TypeId} {v : Value} {l : List Int} (h : OwnB w base e v l) : ∃ p cap, v = .slice p l.length cap := by
  rcases h.2 with ⟨hv, h0⟩ | ⟨g, cap, cur, hv, r⟩
  · exact ⟨none, 0, by rw [hv, h0]⟩
  · exact ⟨_, _, hv⟩
/-- a block that is just these bytes, as a slice of the whole of it -/
theorem OwnB.ofBlk {w : World} {b base : Nat} {e : TypeId} {l : List Int} {cap : Nat} (l0 : List Int) (h : Blk w b e (ints .u8 (l ++ l0))) (hb : base ≤ b) (hc : cap = (l ++ l0).length) (hm : cap ≤ maxLen) : OwnB w base e (.slice (some ⟨b, 0, none⟩) l.length cap) l := by
  subst hc
  refine ⟨by simp [ints_length], .inr ⟨b, _, (ints .u8 (l ++ l0)).toArray, rfl, hb, h, by simp, hm, by simp [ints_length], ?_⟩⟩
  simp [ints]

section
variable {P : Program} {ops : Array Oper} {rest : List Oper} {o : Oper} {a : Act} {w : World} {Q : Exit → Act → World → Prop}

/-- bytes are appended to a slice of the call's own -/
theorem wpList_append_bytes (hgd : o.guard = none) (s x : Operand) (t : TypeId) (ho : o.op = .call { callee := .builtin .append, args := #[s, x], argTypes := #[t, t] })
    (base : Nat) (e : TypeId) (ht : P.underlying t = some (.slice e)) (hinfo : (P.info? e).map (fun i => (i.zero, i.size, i.bytes)) = some (some (.int .u8 0), 1, 1))
    (v : Value) (l : List Int) (hs : a.eval s = v) (hown : OwnB w base e v l)
    (b m c : Nat) (news : List Int) (hx : a.eval x = .slice (some ⟨b, 0, none⟩) m c) (hl : m = news.length) (hnews : w.rangeAt b 0 (ints .u8 news))
    (hbig : l.length + news.length ≤ 140737488355328) (hbase : base ≤ w.heap.size)
    (h : ∀ v' w', OwnB w' base e v' (l ++ news) → w.grownBy w' v.ownBlock → wpList P ops Q rest (a.put o.dst v') w') : wpList P ops Q (o :: rest) a w := by
  obtain ⟨i0, hi0, hz0, hz1, hz2⟩ := info_parts hinfo
  subst hl
  refine wpList_append_own w hgd s x t ho base e i0 (.int .u8 0) 1 1 ht hi0 hz0 hz1 hz2 rfl (by decide) v l.length (ints .u8 l) hs hown ⟨b, 0, none⟩ news.length c (ints .u8 news) hx (by simp [ints_length])
    (fun j u hj => by rw [Addr.add_mid]; exact hnews j u hj) (fun u hu => ?_) (by unfold maxLen; omega) (by omega) hbase (fun v' w' h1 h2 _ => h v' w' ?_ h2)
  · simp only [ints, List.mem_map] at hu
    obtain ⟨n, _, rfl⟩ := hu
    rfl
  · unfold OwnB
    rw [List.length_append, ints_app]; exact h1

theorem run_string_own (src dst e base : TypeId) (v : Value) (l : List Int) (hs : P.underlying src = some (.slice e)) (he : P.underlying e = some (.int .u8)) (hd : P.underlying dst = some .string)
    (hown : OwnB w base e v l) : (convert src dst v).run P w = .ok (.string (bs l)) w := by
  rcases hown.2 with ⟨hv, h0⟩ | ⟨g, cap, cur, hv, _, hh, hn, _, hcs, htk⟩
  · have hl : l = [] := List.eq_nil_of_length_eq_zero h0
    subst hv hl
    rw [run_convert_bytes_string w src dst e _ _ _ hs he hd]
    simp [Conv.bytesToString, Sem.run_pure]; rfl
  · subst hv
    refine run_bytes_string src dst e g l.length cap l hs he hd ?_ rfl
    intro j u hj
    rw [Nat.zero_add, cell_of_row w g j cur e (0, 0) hh]
    rw [← htk, List.getElem?_take] at hj
    split at hj
    · simpa using hj
    · cases hj
theorem wpList_string_own (hgd : o.guard = none) (src dst e : TypeId) (x : Operand) (ho : o.op = .convert src dst x) (base : Nat) (v : Value) (l : List Int)
    (hx : a.eval x = v) (hs : P.underlying src = some (.slice e)) (he : P.underlying e = some (.int .u8)) (hd : P.underlying dst = some .string)
    (hown : OwnB w base e v l) (h : wpList P ops Q rest (a.put o.dst (.string (bs l))) w) : wpList P ops Q (o :: rest) a w :=
  wpList_plain hgd fun _ hK => by
    unfold Oper.wp execOp
    simp only [ho, hx, Sem.run_bind, run_string_own (P := P) (w := w) src dst e base v l hs he hd hown, Result.andThen_ok]
    exact hK _ _ h
/-- reading a cell of it -/
theorem OwnB.cell {base : Nat} {e : TypeId} {g n cap : Nat} {l : List Int} (hown : OwnB w base e (.slice (some ⟨g, 0, none⟩) n cap) l) {j : Nat} (hj : j < l.length) : w.cell? ⟨g, j, none⟩ = some (.int .u8 (l.getD j 0)) := by
  rcases hown.2 with ⟨hv, h0⟩ | ⟨g', cap', cur, hv, _, hh, hn, _, hcs, htk⟩
  · cases hv
  · cases hv
    rw [cell_of_row w g j cur e (0, 0) hh]
    have h2 : (cur.toList.take (l.length * 1))[j]? = some (.int .u8 (l.getD j 0)) := by rw [htk, ints_get _ _ _ hj]
    rw [List.getElem?_take, if_pos (by omega)] at h2
    simpa using h2
end
theorem own_slice {w : World} {base : Nat} {e : TypeId} {v : Value} {n : Nat} {xs : List Value} (h : w.ownsRow base e 1 v n xs) : ∃ p cap, v = .slice p n cap := by
  rcases h.2 with ⟨hv, h0⟩ | ⟨g, cap, cur, hv, r⟩
  · exact ⟨none, 0, by rw [hv, h0]⟩
  · exact ⟨_, _, hv⟩
end Go.Proofs.Ytloogjdojojehaa
namespace Go.Proofs.Ytloogjdojojehaa
open Go.RowKit
set_option linter.unusedVariables false

/-- the slice value v lies in the call's own memory and has the bytes l -/
def OwnM (w : World) (base : Nat) (e : TypeId) (v : Value) (l : List Int) : Prop :=
  (v = .slice none 0 0 ∧ l = []) ∨
  ∃ g cap cur fz, v = .slice (some ⟨g, 0, none⟩) l.length cap ∧ base ≤ g ∧ w.heap[g]? = some (.cells cur e fz) ∧ (∀ j, j < cap → ¬ (fz.1 ≤ j ∧ j < fz.2)) ∧ l.length ≤ cap ∧ cap ≤ maxLen ∧ cur.size = cap ∧ cur.toList.take l.length = ints .u8 l

theorem OwnB.toM {w : World} {base : Nat} {e : TypeId} {v : Value} {l : List Int} (h : OwnB w base e v l) : OwnM w base e v l := by
  rcases h.2 with ⟨hv, h0⟩ | ⟨g, cap, cur, hv, hg, hh, hn, hm, hcs, htk⟩
  · exact .inl ⟨hv, List.eq_nil_of_length_eq_zero h0⟩
  · exact .inr ⟨g, cap, cur, (0, 0), hv, hg, hh, fun j _ => by omega, hn, hm, by omega, by simpa using htk⟩
theorem OwnM.below {w w' : World} {B base : Nat} {e : TypeId} {v : Value} {l : List Int} (h : OwnM w base e v l) (hb : Below B w w') (hB : ∀ k, v.ownBlock = some k → k < B) : OwnM w' base e v l := by
  rcases h with h | ⟨g, cap, cur, fz, hv, hg, hh, r⟩
  · exact .inl h
  · refine .inr ⟨g, cap, cur, fz, hv, hg, ?_, r⟩
    rw [hb.block g (hB g (by rw [hv]; rfl))]; exact hh
theorem OwnM.lt {w : World} {base : Nat} {e : TypeId} {v : Value} {l : List Int} (h : OwnM w base e v l) : ∀ k, v.ownBlock = some k → base ≤ k ∧ k < w.heap.size := by
  intro k hk
  rcases h with ⟨hv, _⟩ | ⟨g, cap, cur, fz, hv, hg, hh, r⟩
  · rw [hv] at hk; cases hk
  · rw [hv] at hk
    cases hk
    refine ⟨hg, ?_⟩
    by_cases hb : g < w.heap.size
    · exact hb
    · rw [Array.getElem?_eq_none (by omega)] at hh; cases hh
theorem OwnM.keep {w w' : World} {base : Nat} {e : TypeId} {v : Value} {l : List Int} (h : OwnM w base e v l) (hb : Below w.heap.size w w') : OwnM w' base e v l := h.below hb (fun k hk => (h.lt k hk).2)
theorem OwnM.alloc {w : World} {base : Nat} {e : TypeId} {v : Value} {l : List Int} (h : OwnM w base e v l) (o : Obj) : OwnM (w.alloc o) base e v l := h.keep ((Below.refl _ _).alloc (Nat.le_refl _) o)
theorem OwnM.drew {w : World} {base : Nat} {e : TypeId} {v : Value} {l : List Int} (h : OwnM w base e v l) : OwnM w.drew base e v l := h
theorem OwnM.drewN {w : World} {base : Nat} {e : TypeId} {v : Value} {l : List Int} (h : OwnM w base e v l) (n : Nat) : OwnM (w.drewN n) base e v l := h
theorem OwnM.isSlice {w : World} {base : Nat} {e : TypeId} {v : Value} {l : List Int} (h : OwnM w base e v l) : ∃ p cap, v = .slice p l.length cap ∧ l.length ≤ cap := by
  rcases h with ⟨hv, h0⟩ | ⟨g, cap, cur, fz, hv, _, _, _, hn, _⟩
  · exact ⟨none, 0, by rw [hv, h0]; rfl, by rw [h0]; simp⟩
  · exact ⟨_, _, hv, hn⟩
theorem OwnM.cell {w : World} {base : Nat} {e : TypeId} {g n cap : Nat} {l : List Int} (h : OwnM w base e (.slice (some ⟨g, 0, none⟩) n cap) l) {j : Nat} (hj : j < l.length) : w.cell? ⟨g, j, none⟩ = some (.int .u8 (l.getD j 0)) := by
  rcases h with ⟨hv, h0⟩ | ⟨g', cap', cur, fz, hv, _, hh, _, hn, _, hcs, htk⟩
  · cases hv
  · cases hv
    rw [cell_of_row w g j cur e fz hh]
    have h2 : (cur.toList.take l.length)[j]? = some (.int .u8 (l.getD j 0)) := by rw [htk, ints_get _ _ _ hj]
    rw [List.getElem?_take, if_pos hj] at h2
    simpa using h2
theorem OwnM.range {w : World} {base : Nat} {e : TypeId} {g n cap : Nat} {l : List Int} (h : OwnM w base e (.slice (some ⟨g, 0, none⟩) n cap) l) : w.rangeAt g 0 (ints .u8 l) := by
  intro j v hv
  have hj : j < l.length := by
    rcases Nat.lt_or_ge j l.length with h' | h'
    · exact h'
    · rw [List.getElem?_eq_none (by rw [ints_length]; exact h')] at hv; cases hv
  rw [Nat.zero_add, h.cell hj]
  rw [ints_get _ _ _ hj] at hv
  exact hv
/-- the slice is nil, or lies at the head of a row -/
theorem OwnM.cases {w : World} {base : Nat} {e : TypeId} {v : Value} {l : List Int} (h : OwnM w base e v l) : (v = .slice none 0 0 ∧ l = []) ∨ ∃ g cap, v = .slice (some ⟨g, 0, none⟩) l.length cap ∧ base ≤ g ∧ l.length ≤ cap ∧ cap ≤ maxLen := by
  rcases h with h | ⟨g, cap, cur, fz, hv, hg, _, _, hn, hm, _⟩
  · exact .inl h
  · exact .inr ⟨g, cap, hv, hg, hn, hm⟩

section
variable {P : Program} {ops : Array Oper} {rest : List Oper} {o : Oper} {a : Act} {w : World} {Q : Exit → Act → World → Prop}

theorem setCells_heap (b : Nat) (e : TypeId) (fz : Nat × Nat) : ∀ (vs : List Value) (off : Nat) (cur : Array Value) (w : World), w.heap[b]? = some (.cells cur e fz) → off + vs.length ≤ cur.size →
    ∃ cur', (w.setCells b off vs).heap[b]? = some (.cells cur' e fz) ∧ cur'.size = cur.size ∧ cur'.toList.take (off + vs.length) = cur.toList.take off ++ vs
  | [], off, cur, w, h, _ => ⟨cur, h, rfl, by simp⟩
  | v :: r, off, cur, w, h, hle => by
    simp only [List.length_cons] at hle
    have h1 : (w.setCell ⟨b, off, none⟩ v).heap[b]? = some (.cells (cur.setIfInBounds off v) e fz) := by
      simp only [World.setCell]
      rw [Array.getElem?_modify]
      simp [h]
    obtain ⟨cur', g1, g2, g3⟩ := setCells_heap b e fz r (off + 1) (cur.setIfInBounds off v) (w.setCell ⟨b, off, none⟩ v) h1 (by simp; omega)
    refine ⟨cur', g1, by simpa using g2, ?_⟩
    rw [show off + (v :: r).length = off + 1 + r.length by simp; omega, g3]
    rw [Array.toList_setIfInBounds]
    have hoff : off < cur.toList.length := by simp; omega
    rw [List.take_succ_eq_append_getElem (by simpa using hoff)]
    simp [List.take_set]
    rw [List.set_eq_of_length_le (by simp; omega)]
theorem below_setCells {B b : Nat} {x : World} (hb : B ≤ b) : ∀ (vs : List Value) (off : Nat) (w : World), Below B x w → Below B x (w.setCells b off vs)
  | [], _, _, h => h
  | v :: r, off, w, h => below_setCells hb r (off + 1) _ (h.setCell (by exact hb) v)

/-- bytes are appended to a slice of the call's own -/
theorem wpList_append_bytesM (hgd : o.guard = none) (s x : Operand) (t : TypeId) (ho : o.op = .call { callee := .builtin .append, args := #[s, x], argTypes := #[t, t] })
    (base : Nat) (e : TypeId) (ht : P.underlying t = some (.slice e)) (hinfo : (P.info? e).map (fun i => (i.zero, i.size, i.bytes)) = some (some (.int .u8 0), 1, 1))
    (v : Value) (l : List Int) (hs : a.eval s = v) (hown : OwnM w base e v l)
    (b m c : Nat) (news : List Int) (hx : a.eval x = .slice (some ⟨b, 0, none⟩) m c) (hl : m = news.length) (hnews : w.rangeAt b 0 (ints .u8 news))
    (hbig : l.length + news.length ≤ 140737488355328) (hbase : base ≤ w.heap.size)
    (h : ∀ v' w', OwnM w' base e v' (l ++ news) → Below base w w' → wpList P ops Q rest (a.put o.dst v') w') : wpList P ops Q (o :: rest) a w := by
  rcases hown with ⟨hv, h0⟩ | ⟨g, cap, cur, fz, hv, hg, hh, hfz, hn, hm, hcs, htk⟩
  · subst hv h0
    refine wpList_append_bytes hgd s x t ho base e ht hinfo _ [] hs (OwnB.nil w base e) b m c news hx hl hnews hbig hbase (fun v' w' h1 h2 => h v' w' h1.toM (Below.grown (Below.refl _ _) h2 hbase (fun k hk => by cases hk)))
  · obtain ⟨i0, hi0, hz0, hz1, hz2⟩ := info_parts hinfo
    subst hl hv
    refine wpList_append_arg w hgd s x t ho e i0 (.int .u8 0) 1 1 ht hi0 hz0 hz1 hz2 rfl (by decide) g 0 l.length cap (ints .u8 l) hs (by simp [ints_length]) (fun j u hj => ?_)
      ⟨b, 0, none⟩ news.length c (ints .u8 news) hx (by simp [ints_length]) (fun j u hj => by rw [Addr.add_mid]; exact hnews j u hj) (fun u hu => ?_) (fun hroom j hj => ?_) (by unfold maxLen; omega) (by omega) (fun hroom => ?_) (fun _ v' w' h1 h2 => ?_)
    · rw [Nat.zero_add, cell_of_row w g j cur e fz hh]
      rw [← htk, List.getElem?_take] at hj
      split at hj
      · simpa using hj
      · cases hj
    · simp only [ints, List.mem_map] at hu
      obtain ⟨n, _, rfl⟩ := hu
      rfl
    · rw [ints_length] at hj
      have hlt : 0 + l.length * 1 + j < cur.size := by omega
      refine ⟨?_, ?_⟩
      · rw [cell_of_row w g _ cur e fz hh]
        simp
        omega
      · have := hfz (0 + l.length * 1 + j) (by omega)
        simp only [World.frozen?, hh]
        obtain ⟨lo, hi⟩ := fz
        simp only [Bool.and_eq_false_iff, decide_eq_false_iff_not]
        simp only at this
        omega
    · obtain ⟨cur', g1, g2, g3⟩ := setCells_heap g e fz (ints .u8 news) (0 + l.length * 1) cur w hh (by rw [ints_length]; omega)
      refine h _ _ (.inr ⟨g, cap, cur', fz, by rw [List.length_append], hg, g1, hfz, by rw [List.length_append]; exact hroom, hm, by omega, ?_⟩) (below_setCells hg _ _ _ (Below.refl _ _))
      rw [List.length_append, ints_app, ← htk]
      rw [ints_length] at g3
      simpa using g3
    · refine h v' w' (OwnB.toM (v := v') (l := l ++ news) ?_) (Below.grown (Below.refl _ _) h2 hbase (fun k hk => by cases hk))
      unfold OwnB
      rw [List.length_append, ints_app]
      obtain ⟨q1, q2⟩ := h1
      refine ⟨q1, ?_⟩
      rcases q2 with q2 | ⟨g', cap', cur', r1, r2, r3⟩
      · exact .inl q2
      · exact .inr ⟨g', cap', cur', r1, Nat.le_trans hbase r2, r3⟩

theorem run_string_ownM (src dst e base : TypeId) (v : Value) (l : List Int) (hs : P.underlying src = some (.slice e)) (he : P.underlying e = some (.int .u8)) (hd : P.underlying dst = some .string)
    (hown : OwnM w base e v l) : (convert src dst v).run P w = .ok (.string (bs l)) w := by
  have hc := hown
  rcases hown.cases with ⟨hv, h0⟩ | ⟨g, cap, hv, _, hn, _⟩
  · subst hv h0
    rw [run_convert_bytes_string w src dst e _ _ _ hs he hd]
    simp [Conv.bytesToString, Sem.run_pure]; rfl
  · subst hv
    exact run_bytes_string src dst e g l.length cap l hs he hd hc.range rfl
theorem wpList_string_ownM (hgd : o.guard = none) (src dst e : TypeId) (x : Operand) (ho : o.op = .convert src dst x) (base : Nat) (v : Value) (l : List Int)
    (hx : a.eval x = v) (hs : P.underlying src = some (.slice e)) (he : P.underlying e = some (.int .u8)) (hd : P.underlying dst = some .string)
    (hown : OwnM w base e v l) (h : wpList P ops Q rest (a.put o.dst (.string (bs l))) w) : wpList P ops Q (o :: rest) a w :=
  wpList_plain hgd fun _ hK => by
    unfold Oper.wp execOp
    simp only [ho, hx, Sem.run_bind, run_string_ownM (P := P) (w := w) src dst e base v l hs he hd hown, Result.andThen_ok]
    exact hK _ _ h

/-- a string's bytes, as a slice of the call's own -/
theorem wpList_bytes_of (hgd : o.guard = none) (src dst e : TypeId) (x : Operand) (ho : o.op = .convert src dst x) (base : Nat) (s : ByteArray)
    (hx : a.eval x = .string s) (hs : P.underlying src = some .string) (hd : P.underlying dst = some (.slice e)) (he : P.underlying e = some (.int .u8)) (hbase : base ≤ w.heap.size)
    (hsm : s.size ≤ maxLen)
    (h : ∀ v' w', OwnM w' base e v' (is s) → Below base w w' → wpList P ops Q rest (a.put o.dst v') w') : wpList P ops Q (o :: rest) a w :=
  wpList_plain hgd fun _ hK => by
    have hcap := grownCap_le_maxLen w s.size 0 e hsm
    unfold Oper.wp execOp
    simp only [ho, hx, Sem.run_bind, Lib.run_convert_string_bytes (P := P) w src dst e s hs hd he, Result.andThen_ok]
    refine hK _ _ (h _ _ ?_ ?_)
    · have hge := grownCap_ge w s.size 0 e
      have hsz : (Lib.bytesCells w e s).size = grownCap w s.size 0 e := by
        simp [Lib.bytesCells]; omega
      refine .inr ⟨w.heap.size, grownCap w s.size 0 e, Lib.bytesCells w e s, _, by rw [is_length], hbase, Lib.bytesWorld_at_new w e s, fun j hj => by rw [hsz]; simp; omega, by rw [is_length]; exact hge, hcap, hsz, ?_⟩
      rw [is_length]
      simp [Lib.bytesCells, ints, is, Function.comp_def]
    · refine ⟨rfl, rfl, rfl, ?_, fun k hk => Lib.bytesWorld_at_old w e s k (by omega)⟩
      rw [Lib.bytesWorld_size]; omega
end
end Go.Proofs.Ytloogjdojojehaa
namespace Go.Proofs.Ytloogjdojojehaa
open Go.RowKit
set_option linter.unusedVariables false

/-- numbers as a list of bytes' values -/
def nn (l : List Nat) : List Int := l.map fun (n : Nat) => (n : Int)
theorem nn_length (l : List Nat) : (nn l).length = l.length := by simp [nn]
theorem nn_getD (l : List Nat) (j : Nat) : (nn l).getD j 0 = ((l.getD j 0 : Nat) : Int) := by
  unfold nn
  rw [List.getD_eq_getElem?_getD, List.getD_eq_getElem?_getD, List.getElem?_map]
  cases l[j]? <;> rfl
theorem nn_set (l : List Nat) (j n : Nat) : (nn l).set j (n : Int) = nn (l.set j n) := by
  unfold nn; rw [List.map_set]
theorem nn_app (a b : List Nat) : nn (a ++ b) = nn a ++ nn b := by simp [nn]
theorem nn_inj {a b : List Nat} (h : nn a = nn b) : a = b := by
  unfold nn at h
  exact (List.map_inj_right (f := fun (n : Nat) => (n : Int)) (fun x y e => by have e' : (x : Int) = (y : Int) := e; omega)).1 h
theorem Blk.nat {w : World} {b : Nat} {t : TypeId} {k : IntKind} {l : List Nat} (h : Blk w b t (ints k (nn l))) {j : Nat} (hj : j < l.length) : w.cell? ⟨b, j, none⟩ = some (.int k ((l.getD j 0 : Nat) : Int)) := by
  rw [h.int (by rw [nn_length]; exact hj), nn_getD]
theorem Blk.setNat {w : World} {b : Nat} {t : TypeId} {k : IntKind} {l : List Nat} (h : Blk w b t (ints k (nn l))) (j n : Nat) : Blk (w.setCell ⟨b, j, none⟩ (.int k (n : Int))) b t (ints k (nn (l.set j n))) := by
  have := h.setInt j (n : Int)
  rwa [nn_set] at this
/-- all are bytes -/
def Bys (l : List Nat) : Prop := ∀ j, l.getD j 0 < 256
theorem Bys.mem {l : List Nat} (h : Bys l) {x : Nat} (hx : x ∈ l) : x < 256 := by
  obtain ⟨j, hj, rfl⟩ := List.getElem_of_mem hx
  have := h j
  rwa [List.getD_eq_getElem?_getD, List.getElem?_eq_getElem hj] at this
theorem Bys.of {l : List Nat} (h : ∀ x ∈ l, x < 256) : Bys l := by
  intro j
  rw [List.getD_eq_getElem?_getD]
  cases hj : l[j]? with
  | none => decide
  | some x => exact h x (List.mem_of_getElem? hj)
theorem Bys.app {a b : List Nat} (ha : Bys a) (hb : Bys b) : Bys (a ++ b) := Bys.of fun x hx => by
  rcases List.mem_append.1 hx with h | h
  · exact ha.mem h
  · exact hb.mem h
theorem Bys.take {a : List Nat} (ha : Bys a) (n : Nat) : Bys (a.take n) := Bys.of fun x hx => ha.mem (List.mem_of_mem_take hx)
theorem Bys.drop {a : List Nat} (ha : Bys a) (n : Nat) : Bys (a.drop n) := Bys.of fun x hx => ha.mem (List.mem_of_mem_drop hx)
theorem getD_set (l : List Nat) (i j x : Nat) (hi : i < l.length) : (l.set i x).getD j 0 = if i = j then x else l.getD j 0 := by
  rw [List.getD_eq_getElem?_getD, List.getElem?_set]
  split
  · rename_i e; subst e; first | rfl | (rw [if_pos hi]; rfl)
  · rw [← List.getD_eq_getElem?_getD]
theorem getD_ext {a b : List Nat} (n : Nat) (la : a.length = n) (lb : b.length = n) (h : ∀ j, j < n → a.getD j 0 = b.getD j 0) : a = b := by
  apply List.ext_getElem (la.trans lb.symm)
  intro j h1 h2
  have := h j (by omega)
  simpa [h1, h2] using this
theorem map_range_getD (f : Nat → Nat) (n k : Nat) (h : k < n) : ((List.range n).map f).getD k 0 = f k := by simp [h]
theorem take_snoc (L : List Nat) (j : Nat) (h : j < L.length) : L.take (j + 1) = L.take j ++ [L.getD j 0] := by
  rw [List.take_add_one, List.getElem?_eq_getElem h, List.getD_eq_getElem?_getD, List.getElem?_eq_getElem h]
  rfl
theorem getD_mem (L : List Nat) (j : Nat) (h : j < L.length) : L.getD j 0 ∈ L := by
  rw [List.getD_eq_getElem?_getD, List.getElem?_eq_getElem h]
  exact List.getElem_mem _
theorem getD_app (a b : List Nat) (j : Nat) : (a ++ b).getD j 0 = if j < a.length then a.getD j 0 else b.getD (j - a.length) 0 := by
  rw [List.getD_eq_getElem?_getD]
  split
  · rename_i h; rw [List.getElem?_append_left h, List.getD_eq_getElem?_getD]
  · rename_i h; rw [List.getElem?_append_right (by omega), List.getD_eq_getElem?_getD]
theorem getD_take (a : List Nat) (i j : Nat) (h : j < i) : (a.take i).getD j 0 = a.getD j 0 := by
  rw [List.getD_eq_getElem?_getD, List.getElem?_take, if_pos h, List.getD_eq_getElem?_getD]
theorem getD_drop (a : List Nat) (i j : Nat) : (a.drop i).getD j 0 = a.getD (i + j) 0 := by
  rw [List.getD_eq_getElem?_getD, List.getElem?_drop, List.getD_eq_getElem?_getD]
def zerN (n : Nat) : List Nat := List.replicate n 0
theorem zerN_len (n : Nat) : (zerN n).length = n := by simp [zerN]
theorem oct_nn {l : List Nat} (h : Bys l) : Octets (nn l) := by
  intro x hx
  simp only [nn, List.mem_map] at hx
  obtain ⟨y, hy, rfl⟩ := hx
  have := h.mem hy
  omega
theorem nat_u8 (x : Int) (h : (Lit.int .u8 x).wf = true) : ∃ n : Nat, x = (n : Int) ∧ n < 256 := by
  have := bounds_u8 h
  exact ⟨x.toNat, by omega, by omega⟩
theorem nat_u32 (x : Int) (h : (Lit.int .u32 x).wf = true) : ∃ n : Nat, x = (n : Int) ∧ n < 4294967296 := by
  have := bounds_u32 h
  exact ⟨x.toNat, by omega, by omega⟩
theorem nat_u64 (x : Int) (h : (Lit.int .u64 x).wf = true) : ∃ n : Nat, x = (n : Int) ∧ n < 18446744073709551616 := by
  have := bounds_u64 h
  exact ⟨x.toNat, by omega, by omega⟩
theorem or_add (E y i : Nat) (hE : E < 2 ^ i) : E ||| y * 2 ^ i = E + y * 2 ^ i := by
  have := Nat.two_pow_add_eq_or_of_lt hE y
  rw [Nat.or_comm, Nat.mul_comm y, ← this, Nat.add_comm]
theorem wraps_u64 (n : Int) (h0 : 0 ≤ n) (h1 : n < 2 ^ 64) : IntKind.u64.wrap n = n := by rw [IntKind.wrap_u64]; omega
theorem or_u64 (a b : Nat) (ha : a < 18446744073709551616) (hb : b < 18446744073709551616) : bits .or .u64 (a : Int) (b : Int) = ((a ||| b : Nat) : Int) :=
  (bits_nat .u64 64 (by decide) wraps_u64 a b ha hb).2
theorem or_byte (a b : Nat) (ha : a < 256) (hb : b < 256) : bits .or .u8 (a : Int) (b : Int) = ((a ||| b : Nat) : Int) :=
  (bits_nat .u8 8 (by decide) wraps_u8 a b ha hb).2
/-! ### texts -/
/-- a text's bytes -/
def sl (s : ByteArray) : List Nat := s.data.toList.map (·.toNat)
theorem sl_len (s : ByteArray) : (sl s).length = s.size := by simp [sl]
theorem is_sl (s : ByteArray) : is s = nn (sl s) := by simp [is, sl, nn]
theorem sl_bys (s : ByteArray) : Bys (sl s) := by
  intro j
  unfold sl
  rw [List.getD_eq_getElem?_getD, List.getElem?_map]
  cases h : s.data.toList[j]? with
  | none => decide
  | some b => exact b.toNat_lt
/-- the text of these bytes -/
def tx (l : List Nat) : ByteArray := bs (nn l)
theorem sl_tx {l : List Nat} (h : Bys l) : sl (tx l) = l := nn_inj (by unfold tx; rw [← is_sl, is_bs _ (oct_nn h)])
theorem tx_sl (s : ByteArray) : tx (sl s) = s := by unfold tx; rw [← is_sl, bs_is]
theorem tx_size (l : List Nat) : (tx l).size = l.length := by unfold tx; rw [bs_size, nn_length]
theorem tx_app (a b : List Nat) : tx (a ++ b) = tx a ++ tx b := by unfold tx; rw [nn_app, bs_app]
theorem sl_app (a b : ByteArray) : sl (a ++ b) = sl a ++ sl b := by simp [sl, ByteArray.data_append]
theorem sl_inj {a b : ByteArray} (h : sl a = sl b) : a = b := by rw [← tx_sl a, ← tx_sl b, h]
theorem tx_inj {a b : List Nat} (ha : Bys a) (hb : Bys b) (h : tx a = tx b) : a = b := by rw [← sl_tx ha, ← sl_tx hb, h]
theorem sl_head (s : ByteArray) (n : Nat) : sl (s.extract 0 n) = (sl s).take n := by
  simp [sl, ByteArray.data_extract, List.map_take]
theorem sl_tail (s : ByteArray) (n : Nat) : sl (s.extract n s.size) = (sl s).drop n := by
  simp [sl, ByteArray.data_extract, List.map_drop]
  rw [List.take_of_length_le (by simp)]
theorem head_tx (s : ByteArray) (n : Nat) : s.extract 0 n = tx ((sl s).take n) := by rw [← sl_head, tx_sl]
theorem tail_tx (s : ByteArray) (n : Nat) : s.extract n s.size = tx ((sl s).drop n) := by rw [← sl_tail, tx_sl]
theorem txt_same (x : ByteArray) : (x.toList == x.toList) = true := by simp
theorem txt_ne {x y : ByteArray} (h : x ≠ y) : (x.toList == y.toList) = false := by
  rw [beq_eq_false_iff_ne]
  intro e
  rw [Go.ByteArray.toList_eq, Go.ByteArray.toList_eq] at e
  exact h (ByteArray.ext (Array.toList_inj.mp e))
theorem txt_eq {x y : ByteArray} (h : x = y) : (x.toList == y.toList) = true := by subst h; simp
end Go.Proofs.Ytloogjdojojehaa
namespace Go.Proofs.Ytloogjdojojehaa
open Go.RowKit
set_option linter.unusedVariables false

theorem OwnM.free {w : World} {base : Nat} {e : TypeId} {g n cap : Nat} {l : List Int} (h : OwnM w base e (.slice (some ⟨g, 0, none⟩) n cap) l) {j : Nat} (hj : j < l.length) : w.frozen? ⟨g, j, none⟩ = false := by
  rcases h with ⟨hv, h0⟩ | ⟨g', cap', cur, fz, hv, _, hh, hfz, hn, _, hcs, htk⟩
  · cases hv
  · cases hv
    have := hfz j (by omega)
    simp only [World.frozen?, hh]
    obtain ⟨lo, hi⟩ := fz
    simp only [Bool.and_eq_false_iff, decide_eq_false_iff_not]
    simp only at this
    omega
theorem OwnM.set {w : World} {base : Nat} {e : TypeId} {g n cap : Nat} {l : List Int} (h : OwnM w base e (.slice (some ⟨g, 0, none⟩) n cap) l) {j : Nat} (hj : j < l.length) (x : Int) : OwnM (w.setCell ⟨g, j, none⟩ (.int .u8 x)) base e (.slice (some ⟨g, 0, none⟩) n cap) (l.set j x) := by
  rcases h with ⟨hv, h0⟩ | ⟨g', cap', cur, fz, hv, hg, hh, hfz, hn, hm, hcs, htk⟩
  · cases hv
  · cases hv
    refine .inr ⟨g, cap, cur.setIfInBounds j (.int .u8 x), fz, by rw [List.length_set], hg, ?_, hfz, by rw [List.length_set]; exact hn, hm, by simpa using hcs, ?_⟩
    · simp only [World.setCell]
      rw [Array.getElem?_modify]
      simp [hh]
    · rw [List.length_set, Array.toList_setIfInBounds, List.take_set, htk, ints_set]
theorem OwnM.other {w : World} {base : Nat} {e : TypeId} {g n cap : Nat} {l : List Int} (h : OwnM w base e (.slice (some ⟨g, 0, none⟩) n cap) l) {b j : Nat} (hb : b ≠ g) (V : Value) : OwnM (w.setCell ⟨b, j, none⟩ V) base e (.slice (some ⟨g, 0, none⟩) n cap) l := by
  rcases h with ⟨hv, h0⟩ | ⟨g', cap', cur, fz, hv, hg, hh, r⟩
  · cases hv
  · cases hv
    refine .inr ⟨g, cap, cur, fz, rfl, hg, ?_, r⟩
    simp only [World.setCell]
    rw [Array.getElem?_modify]
    rw [if_neg (by omega)]
    exact hh
section
variable {P : Program} {ops : Array Oper} {rest : List Oper} {o : Oper} {a : Act} {w : World} {Q : Exit → Act → World → Prop}
/-- a string's bytes, as a slice of the call's own; where it lies -/
theorem wpList_bytes_at (hgd : o.guard = none) (src dst e : TypeId) (x : Operand) (ho : o.op = .convert src dst x) (base : Nat) (s : ByteArray)
    (hx : a.eval x = .string s) (hs : P.underlying src = some .string) (hd : P.underlying dst = some (.slice e)) (he : P.underlying e = some (.int .u8)) (hbase : base ≤ w.heap.size)
    (hsm : s.size ≤ maxLen)
    (h : ∀ cap w', OwnM w' base e (.slice (some ⟨w.heap.size, 0, none⟩) s.size cap) (is s) → Below w.heap.size w w' → wpList P ops Q rest (a.put o.dst (.slice (some ⟨w.heap.size, 0, none⟩) s.size cap)) w') : wpList P ops Q (o :: rest) a w :=
  wpList_plain hgd fun _ hK => by
    have hcap := grownCap_le_maxLen w s.size 0 e hsm
    unfold Oper.wp execOp
    simp only [ho, hx, Sem.run_bind, Lib.run_convert_string_bytes (P := P) w src dst e s hs hd he, Result.andThen_ok]
    refine hK _ _ (h _ _ ?_ ?_)
    · have hge := grownCap_ge w s.size 0 e
      have hsz : (Lib.bytesCells w e s).size = grownCap w s.size 0 e := by
        simp [Lib.bytesCells]; omega
      refine .inr ⟨w.heap.size, grownCap w s.size 0 e, Lib.bytesCells w e s, _, by rw [is_length], hbase, Lib.bytesWorld_at_new w e s, fun j hj => by rw [hsz]; simp; omega, by rw [is_length]; exact hge, hcap, hsz, ?_⟩
      rw [is_length]
      simp [Lib.bytesCells, ints, is, Function.comp_def]
    · refine ⟨rfl, rfl, rfl, ?_, fun k hk => Lib.bytesWorld_at_old w e s k (by omega)⟩
      rw [Lib.bytesWorld_size]; omega
end

end Go.Proofs.Ytloogjdojojehaa
namespace Go.Proofs.Ytloogjdojojehaa
set_option linter.unusedVariables false

theorem wanted_free {o : Oper} (h : o.guard = none) (y : List (Option Value)) (z : Array Oper) (t : Array Value) : Region.wanted o (yielded z t) = true := by
  simp [Region.wanted, h]

/-- what a guard asks hangs on the operation that it names -/
theorem wanted_same {o : Oper} {f g : Nat → Option Bool} (h : ∀ i want, o.guard = some (i, want) → f i = g i) : Region.wanted o f = Region.wanted o g := by
  unfold Region.wanted
  cases hg : o.guard with
  | none => rfl
  | some p => simp only [h p.1 p.2 hg]

/-- checked by the kernel: each operation waits for earlier ones alone and has no guard -/
def lexical (ops : Array Oper) : Bool :=
  (List.range ops.size).all fun j => match ops[j]? with
    | some o => (match o.guard with | none => true | some (i, _) => decide (i < j)) && o.after.all fun e => !Region.binds .any e || decide (e.on < j)
    | none => true

theorem lexical_spec {ops : Array Oper} (h : lexical ops = true) {j : Nat} {o : Oper} (ho : ops[j]? = some o) :
    (∀ i want, o.guard = some (i, want) → i < j) ∧ ∀ e ∈ o.after, Region.binds .any e = true → e.on < j := by
  have hj : j < ops.size := (Array.getElem?_eq_some_iff.1 ho).1
  have := List.all_eq_true.1 h j (List.mem_range.2 hj)
  simp only [ho, Bool.and_eq_true] at this
  refine ⟨fun i want hg => ?_, fun e he hb => ?_⟩
  · have h1 := this.1
    rw [hg] at h1
    exact of_decide_eq_true h1
  have h2 := (Array.all_eq_true_iff_forall_mem.1 this.2) e he
  simpa [hb] using h2

/-- the heads are listed, the tail is not -/
def headsDone (n N : Nat) : Array Bool := Array.ofFn (n := N) fun i => decide (i.val < n)

def tailB (ops : Array Oper) (n : Nat) : Bool :=
  lexical ops && decide (n < ops.size) && Region.sinkB .any ops n && Region.chainB .any ops n && Region.lexB .any (ops.extract 0 n) &&
    Region.seqB .any ops (ops.size - n) n (headsDone n ops.size)

section
variable {P : Program} {ops : Array Oper} {C : World → Prop}

theorem extract_set (b : Array Bool) (n i : Nat) (h : i < n) : (b.setIfInBounds i true).extract 0 n = (b.extract 0 n).setIfInBounds i true := by
  apply Array.ext_getElem?
  intro j
  simp only [Array.getElem?_extract, Array.getElem?_setIfInBounds, Array.size_extract, Array.size_setIfInBounds, Nat.zero_add, Nat.sub_zero]
  by_cases hij : i = j
  · subst hij
    by_cases hb : i < b.size
    · simp [hb]
    · simp [hb]
      omega
  · simp [hij]

theorem extract_getD (b : Array Bool) (n i : Nat) (h : i < n) (d : Bool) : (b.extract 0 n).getD i d = b.getD i d := by
  simp only [Array.getD_eq_getD_getElem?, Array.getElem?_extract, Nat.zero_add, Nat.sub_zero]
  by_cases hb : i < b.size
  · rw [if_pos (by omega)]
  · rw [if_neg (by omega), Array.getElem?_eq_none (by omega)]

/-- how many of the first m are not listed -/
def un (b : Array Bool) : Nat → Nat
  | 0 => 0
  | m + 1 => un b m + (if b.getD m true = true then 0 else 1)
theorem un_set_low (b : Array Bool) (k : Nat) : ∀ m, m ≤ k → un (b.setIfInBounds k true) m = un b m
  | 0, _ => rfl
  | m + 1, h => by
    have h1 : (b.setIfInBounds k true).getD m true = b.getD m true := by
      simp only [Array.getD_eq_getD_getElem?]
      rw [Array.getElem?_setIfInBounds_ne (by omega)]
    simp only [un, h1, un_set_low b k m (by omega)]
theorem un_set (b : Array Bool) (k : Nat) : ∀ m, un b m ≤ un (b.setIfInBounds k true) m + 1
  | 0 => by simp [un]
  | m + 1 => by
    by_cases hm : m = k
    · subst hm
      simp only [un, un_set_low b m m (Nat.le_refl _)]
      split <;> split <;> omega
    · have h1 : (b.setIfInBounds k true).getD m true = b.getD m true := by
        simp only [Array.getD_eq_getD_getElem?]
        rw [Array.getElem?_setIfInBounds_ne (by omega)]
      have := un_set b k m
      simp only [un, h1]
      omega
theorem un_pos (b : Array Bool) : ∀ m, 0 < un b m → ∃ i, i < m ∧ b.getD i true = false
  | 0, h => by simp [un] at h
  | m + 1, h => by
    cases hb : b.getD m true with
    | false => exact ⟨m, by omega, hb⟩
    | true =>
      simp only [un, hb, if_true, Nat.add_zero] at h
      obtain ⟨i, hi, hq⟩ := un_pos b m h
      exact ⟨i, by omega, hq⟩
theorem un_all (b : Array Bool) : ∀ m, (∀ i, i < m → b.getD i true = false) → un b m = m
  | 0, _ => rfl
  | m + 1, h => by
    have := un_all b m (fun i hi => h i (by omega))
    simp only [un, h m (by omega), this]; rfl

theorem transfer {n : Nat} (hl : lexical ops = true) (hs : Region.sinkB .any ops n = true) (hc : Region.chainB .any ops n = true) (hn : n < ops.size)
    {Q : Act → Prop} {Q' : Exit → Act → World → Prop} {g : Nat}
    (hfin : ∀ (listed : Array Bool) (a : Act) (w : World), HeadInv .any ops n listed → (∀ i, i < n → listed.getD i true = true) → C w → Q a → wpAny P .any ops Q' g listed a w) :
    ∀ (f : Nat) (listed : Array Bool) (a : Act) (w : World), HeadInv .any ops n listed → f ≤ un listed n → C w →
      wpAnyQ P .any (ops.extract 0 n) C Q f (listed.extract 0 n) a → wpAny P .any ops Q' (f + g) listed a w := by
  -- a head that is not listed leaves one that is ready
  have first : ∀ (listed : Array Bool), HeadInv .any ops n listed → ∀ i, i < n → listed.getD i true = false → ∃ k, k < n ∧ k ∈ Region.ready .any ops listed := by
    intro listed inv i
    induction i using Nat.strongRecOn with
    | _ i ih =>
      intro hi hun
      have hio : i < ops.size := by omega
      obtain ⟨oi, hoi⟩ : ∃ oi, ops[i]? = some oi := ⟨_, Array.getElem?_eq_getElem hio⟩
      by_cases hall : ∀ e ∈ oi.after, Region.binds .any e = true → listed.getD e.on false = true
      · exact ⟨i, hi, mem_ready.2 ⟨hun, oi, hoi, hall⟩⟩
      · obtain ⟨e, he⟩ := Classical.not_forall.1 hall
        obtain ⟨he1, he2⟩ := Classical.not_forall.1 he
        obtain ⟨he3, he4⟩ := Classical.not_forall.1 he2
        have hlt := (lexical_spec hl hoi).2 e he1 he3
        have : listed.getD e.on true = false := by
          have hsz : e.on < listed.size := by rw [inv.size]; omega
          simp [hsz] at he4 ⊢
          exact he4
        exact ih e.on hlt (by omega) this
  have up : ∀ (listed : Array Bool), HeadInv .any ops n listed → ∀ i, i < n → i ∈ Region.ready .any ops listed → i ∈ Region.ready .any (ops.extract 0 n) (listed.extract 0 n) := by
    intro listed inv i hi hr
    obtain ⟨h1, oi, hoi, h3⟩ := mem_ready.1 hr
    refine mem_ready.2 ⟨by rw [extract_getD _ _ _ hi]; exact h1, oi, ?_, fun e he hb => ?_⟩
    · rw [Array.getElem?_extract, if_pos (by omega)]; simpa using hoi
    · have := (lexical_spec hl hoi).2 e he hb
      rw [extract_getD _ _ _ (by omega)]
      exact h3 e he hb
  have down : ∀ (listed : Array Bool), HeadInv .any ops n listed → Region.ready .any (ops.extract 0 n) (listed.extract 0 n) = [] → ∀ i, i < n → listed.getD i true = true := by
    intro listed inv h0 i hi
    cases hu : listed.getD i true with
    | true => rfl
    | false =>
      obtain ⟨k, hk, hr⟩ := first listed inv i hi hu
      have := up listed inv k hk hr
      rw [h0] at this
      cases this
  intro f
  induction f with
  | zero =>
    intro listed a w inv _ hC h
    rw [Nat.zero_add]
    exact hfin listed a w inv (down listed inv h.1) hC h.2
  | succ f ih =>
    intro listed a w inv hun hC h
    obtain ⟨i, hi, hu⟩ := un_pos listed n (by omega)
    rw [show f + 1 + g = (f + g) + 1 by omega]
    refine ⟨fun h0 => ?_, fun k hk => ?_⟩
    · obtain ⟨k, _, hr⟩ := first listed inv i hi hu
      rw [h0] at hr; cases hr
    · have hkn : k < n := by
        rcases Nat.lt_or_ge k n with h' | h'
        · exact h'
        · exact absurd hk (tail_waits hs hc hn inv _ i rfl hi hu k h')
      have hq := h.2 k (up listed inv k hkn hk)
      obtain ⟨_, ok, hok, _⟩ := mem_ready.1 hk
      have hgd := (lexical_spec hl hok).1
      have hq' : qOp P ops C k (wpAnyQ P .any (ops.extract 0 n) C Q f ((listed.setIfInBounds k true).extract 0 n)) a := by
        rw [extract_set _ _ _ hkn]
        unfold qOp at hq ⊢
        have e1 : (ops.extract 0 n)[k]? = some ok := by rw [Array.getElem?_extract, if_pos (by omega)]; simpa using hok
        have e2 : Region.wanted ok (yielded (ops.extract 0 n) a.tmps) = Region.wanted ok (yielded ops a.tmps) := wanted_same fun i want hg => by
          have := hgd i want hg
          simp only [yielded, Array.getElem?_extract]
          rw [if_pos (by omega), Nat.zero_add]
        simp only [e1, hok, e2] at hq ⊢
        exact hq
      have hcnt := un_set listed k n
      exact wpOp_of_qOp hC (fun a' w' hC' hK => ih _ a' w' (inv.set hk hkn) (by omega) hC' hK) hq'

theorem quiet_nil_mono {Q Q2 : Act → Prop} (hQ : ∀ a, Q a → Q2 a) (zs : Array Oper) : ∀ (l : List Oper) (a : Act), wpQuiet P zs C Q l a → wpQuiet P zs C Q2 l a
  | [], a, h => hQ a h
  | o :: l, a, h => by
    unfold wpQuiet at h ⊢
    split
    · rename_i hw
      simp only [hw, if_true] at h
      exact Oper.quiet_mono (fun a' h' => quiet_nil_mono hQ zs l a' h') h
    · rename_i hw
      simp only [hw] at h
      exact quiet_nil_mono hQ zs l _ h

/-- THE LAW, over all orders. -/
theorem any_quiet_tail {Q' : Exit → Act → World → Prop} {a : Act} {w : World} {l : List Oper} (n : Nat) (hB : tailB l.toArray n = true)
    (hC : C w.drew) (h : wpQuiet P (l.take n).toArray C (fun a' => ∀ w', C w' → wpList P l.toArray Q' (l.drop n) a' w') (l.take n) a) : wpAny P .any l.toArray Q' l.toArray.size (Array.replicate l.toArray.size false) a w.drew := by
  simp only [tailB, Bool.and_eq_true, decide_eq_true_eq] at hB
  obtain ⟨⟨⟨⟨⟨hl, hn⟩, hs⟩, hc⟩, hx⟩, hq⟩ := hB
  have hn' : n < l.length := by simpa using hn
  have htl : (l.take n).length = n := by simp; omega
  have hext : l.toArray.extract 0 n = (l.take n).toArray := by simp
  have inv0 : HeadInv .any l.toArray n (Array.replicate l.toArray.size false) :=
    ⟨by simp, fun j oj _ hl' => (by rw [getD_replicate_false] at hl'; cases hl'), fun t _ ht => getD_in (by simpa using ht) (getD_replicate_false _ _)⟩
  rw [hext] at hx
  simp only [Region.lexB, Bool.and_eq_true] at hx
  have H0 := wpAnyQ_lex (P := P) (C := C) (md := .any) hx.1 (l.take n) 0 (Array.replicate (l.take n).toArray.size false) a (by simp) (by simpa using hx.2) h
  rw [htl] at H0
  have hrep : (Array.replicate l.toArray.size false).extract 0 n = Array.replicate (l.take n).toArray.size false := by
    simp
  have := transfer (P := P) (C := C) (Q' := Q') (g := l.toArray.size - n) hl hs hc hn (Q := fun a' => ∀ w', C w' → wpList P l.toArray Q' (l.drop n) a' w') (fun listed a' w' inv hall hC' hQ => by
    have hlisted : listed = headsDone n l.toArray.size := by
      apply Array.ext
      · simp [headsDone, inv.size]
      · intro i h1 h2
        by_cases hi : i < n
        · have := hall i hi
          simp [h1] at this
          simp [headsDone, hi, this]
        · have := inv.tail i (by omega) (by rw [inv.size] at h1; exact h1)
          simp [h1] at this
          simp [headsDone, hi, this]
    have hz := wpAny_of_seq (md := .any) (Q' := Q') (l.drop n) n listed a' w' (fun j => by simp [List.getElem?_drop]) (by rw [hlisted]; simpa using hq) (hQ w' hC')
    simpa using hz) n (Array.replicate l.toArray.size false) a w.drew inv0 (by rw [un_all _ n (fun i hi => getD_in (by simpa using (by omega)) (getD_replicate_false _ _))]; omega) hC (by rw [hrep, hext]; exact H0)
  rw [show n + (l.toArray.size - n) = l.toArray.size by omega] at this
  exact this
/-- THE LAW. -/
theorem region_quiet_tail {id : Nat} {Q' : Exit → Act → World → Prop} {a : Act} {w : World} {l : List Oper} (n : Nat) (hm : P.follows .mixedOrders = true) (hB : tailB l.toArray n = true)
    (hC : C w.drew) (h : wpQuiet P (l.take n).toArray C (fun a' => ∀ w', C w' → wpList P l.toArray Q' (l.drop n) a' w') (l.take n) a) : (Code.region id l.toArray true).wp P Q' a w :=
  wp_region_any hm (any_quiet_tail n hB hC h)
/-- a whole array or struct is loaded, at any offset -/
theorem wpQuiet_load_mid {zs : Array Oper} {Q : Act → Prop} {op : Oper} {rest : List Oper} {a : Act} (hgd : op.guard = none) (ty : TypeId) (x : Operand) (ho : op.op = .load ty x)
    (b o : Nat) (hx : a.eval x = .pointer (some ⟨b, o, none⟩)) (cs : List Value) {d : TypeDesc} (hc : ∀ w', C w' → w'.rangeAt b o cs)
    (hu : P.underlying ty = some d) (hd : d.isRow = true) (hi : (P.info? ty).map (·.size) = some cs.length)
    (h : wpQuiet P zs C Q rest (a.put op.dst (.agg cs.toArray))) : wpQuiet P zs C Q (op :: rest) a := by
  unfold wpQuiet
  rw [if_pos (wanted_free hgd [] zs a.tmps)]
  refine ⟨.agg cs.toArray, fun w' hw' => ?_, h⟩
  unfold Oper.quietAt execOp
  simp only [ho, hx, Instr.loadAt, Instr.sureAddr, Sem.run_bind, Sem.run_pure, Result.andThen_ok, run_loadVar_mid w' b o ty cs d (hc w' hw') hu hd hi, Oper.quietUpon]
  trivial
/-- the same under a guard that holds -/
theorem wpQuiet_load_row {zs : Array Oper} {Q : Act → Prop} {op : Oper} {rest : List Oper} {a : Act} (hgd : Region.wanted op (yielded zs a.tmps) = true) (ty : TypeId) (x : Operand) (ho : op.op = .load ty x)
    (b o : Nat) (hx : a.eval x = .pointer (some ⟨b, o, none⟩)) (cs : List Value) {d : TypeDesc} (hc : ∀ w', C w' → w'.rangeAt b o cs)
    (hu : P.underlying ty = some d) (hd : d.isRow = true) (hi : (P.info? ty).map (·.size) = some cs.length)
    (h : wpQuiet P zs C Q rest (a.put op.dst (.agg cs.toArray))) : wpQuiet P zs C Q (op :: rest) a := by
  unfold wpQuiet
  rw [if_pos hgd]
  refine ⟨.agg cs.toArray, fun w' hw' => ?_, h⟩
  unfold Oper.quietAt execOp
  simp only [ho, hx, Instr.loadAt, Instr.sureAddr, Sem.run_bind, Sem.run_pure, Result.andThen_ok, run_loadVar_mid w' b o ty cs d (hc w' hw') hu hd hi, Oper.quietUpon]
  trivial
/-- the class of the worlds that are w after some draws -/
theorem region_drew_tail {id : Nat} {Q' : Exit → Act → World → Prop} {a : Act} {w : World} {l : List Oper} (n : Nat) (hm : P.follows .mixedOrders = true) (hB : tailB l.toArray n = true)
    (h : wpQuiet P (l.take n).toArray (fun w' => ∃ m, w' = w.drewN m) (fun a' => ∀ w', (∃ m, w' = w.drewN m) → wpList P l.toArray Q' (l.drop n) a' w') (l.take n) a) : (Code.region id l.toArray true).wp P Q' a w :=
  region_quiet_tail n hm hB ⟨1, rfl⟩ h
end
end Go.Proofs.Ytloogjdojojehaa
namespace Go.Proofs.Ytloogjdojojehaa
open Go.RowKit
set_option linter.unusedVariables false

theorem rowsIn_of {n : Nat} {P : Program} {row : String} {args : Array Value} {w : World} {R : Value → World → Prop} (l : Nat) (h : Rows P row args w R) : RowsIn (Fence.wide.inRound l) n P row args w R :=
  fun c cs _ => let ⟨v, w', r, s⟩ := h c cs; ⟨v, w', r, stepsIn_wide.2 s⟩
/-- no defer statement among them -/
def noDefer (ops : Array Oper) : Bool := ops.all fun o => match o.op with | .defer _ => false | _ => true
theorem noDefer_spec {ops : Array Oper} (h : noDefer ops = true) {i : Nat} {o : Oper} (ho : ops[i]? = some o) : ∀ c, o.op ≠ .defer c := by
  intro c e
  have := (Array.all_eq_true_iff_forall_mem.1 h) o (Array.mem_of_getElem? ho)
  rw [e] at this
  cases this
theorem operIn_of {n : Nat} {P : Program} {o : Oper} {a : Act} {w : World} {K K' : Act → World → Prop} {Q : Exit → Act → World → Prop} (l : Nat) (hd : ∀ c, o.op ≠ .defer c)
    (hK : ∀ a w, K a w → K' a w) (h : o.wp P a w K Q) : o.wpIn (Fence.wide.inRound l) n P a w K' Q := by
  refine ⟨fun _ _ => trivial, ?_⟩
  rw [Oper.semAt_plain _ _ _ hd]
  unfold Oper.wp at h
  generalize (execOp a.eval o).run P w = r at h ⊢
  cases r with
  | ok x w' =>
    cases x <;> simp only [Oper.upon, Oper.uponIn] at h ⊢
    case value => exact hK _ _ h
    case skip => exact hK _ _ h
    case defer => exact hK _ _ h
    case enter =>
      refine ⟨fun e => by simp [Fence.wide] at e, CallsIn.inRound l (callsIn_wide.2 (h.mono ?_))⟩
      intro e w'' he
      cases e <;> first | exact hK _ _ he | exact he
    case row => exact ⟨fun e => by simp [Fence.wide] at e, (rowsIn_of l h).mono fun _ _ he => hK _ _ he⟩
  | halt x w' => cases x <;> simp only [Oper.upon, Oper.uponIn] at h ⊢ <;> exact h
theorem anyIn_of {n : Nat} {P : Program} {md : Region.Mode} {ops : Array Oper} {Q : Exit → Act → World → Prop} (l : Nat) (hd : noDefer ops = true) (hQ : ¬ LetsOut Q) :
    ∀ (fuel : Nat) (listed : Array Bool) (a : Act) (w : World), wpAny P md ops Q fuel listed a w → wpAnyIn (Fence.wide.inRound l) n P md ops Q fuel listed a w
  | 0, _, _, _, h => h
  | fuel + 1, listed, a, w, h => by
    refine ⟨h.1, fun i hi => ?_⟩
    have := h.2 i hi
    unfold wpOp at this
    unfold wpOpIn
    cases ho : ops[i]? with
    | none => simp only [ho] at this; exact anyIn_of l hd hQ fuel _ _ _ this
    | some o =>
      simp only [ho] at this
      by_cases hw : Region.wanted o (yielded ops a.tmps) = true
      · simp only [hw, if_true] at this ⊢
        rcases this with h' | ⟨_, h'⟩
        · exact operIn_of l (noDefer_spec hd ho) (fun a w hk => anyIn_of l hd hQ fuel _ _ _ hk) h'
        · exact absurd h' hQ
      · simp only [hw] at this ⊢
        exact ⟨fun _ _ => trivial, anyIn_of l hd hQ fuel _ _ _ this⟩
theorem regionIn_quiet_tail {m : Nat} {P : Program} {C : World → Prop} (lp : Nat) {id : Nat} {Q' : Exit → Act → World → Prop} {a : Act} {w : World} {l : List Oper} (n : Nat) (hm : P.follows .mixedOrders = true) (hd : noDefer l.toArray = true) (hB : tailB l.toArray n = true) (hQ : ¬ LetsOut Q')
    (hC : C w.drew) (h : wpQuiet P (l.take n).toArray C (fun a' => ∀ w', C w' → wpList P l.toArray Q' (l.drop n) a' w') (l.take n) a) : (Code.region id l.toArray true).wpIn (Fence.wide.inRound lp) m P Q' a w :=
  wpIn_region_any hm (anyIn_of lp hd hQ _ _ _ _ (any_quiet_tail n hB hC h))
theorem operIn_wide {n : Nat} {P : Program} {o : Oper} {a : Act} {w : World} {K : Act → World → Prop} {Q : Exit → Act → World → Prop} (hd : ∀ c, o.op ≠ .defer c)
    (h : o.wp P a w K Q) : o.wpIn Fence.wide n P a w K Q := by
  refine ⟨fun _ _ => trivial, ?_⟩
  rw [Oper.semAt_plain _ _ _ hd]
  unfold Oper.wp at h
  generalize (execOp a.eval o).run P w = r at h ⊢
  cases r with
  | ok x w' =>
    cases x <;> simp only [Oper.upon, Oper.uponIn] at h ⊢
    case value => exact h
    case skip => exact h
    case defer => exact h
    case enter =>
      refine ⟨fun e => by simp [Fence.wide] at e, callsIn_wide.2 (h.mono ?_)⟩
      intro e w'' he
      cases e <;> exact he
    case row => exact ⟨fun e => by simp [Fence.wide] at e, (fun c cs _ => let ⟨v, w', r, s⟩ := h c cs; ⟨v, w', r, stepsIn_wide.2 s⟩)⟩
  | halt x w' => cases x <;> simp only [Oper.upon, Oper.uponIn] at h ⊢ <;> exact h
section
variable {P : Program} {m : Nat} {ops : Array Oper} {rest : List Oper} {o : Oper} {a : Act} {w : World} {Q : Exit → Act → World → Prop}
theorem wpListIn_load_blk (hgd : o.guard = none) (ty : TypeId) (x : Operand) (ho : o.op = .load ty x)
    (g : Nat) (hx : a.eval x = .pointer (some ⟨g, 0, none⟩)) {t : TypeId} {cs : List Value} {d : TypeDesc} (hg : Blk w g t cs)
    (hu : P.underlying ty = some d) (hd : (match d with | .struct _ | .array _ _ => true | _ => false) = true) (hi : (P.info? ty).map (·.size) = some cs.length)
    (h : wpListIn Fence.wide m P ops Q rest (a.put o.dst (.agg cs.toArray)) w) : wpListIn Fence.wide m P ops Q (o :: rest) a w :=
  wpListIn_plain hgd fun K hK => operIn_wide (by rw [ho]; intro c hc; cases hc) (wp_load_row ty x ho g hx t cs.toArray (0, 0) d hg hu hd (by simpa using hi) (hK _ _ h))
theorem wpListIn_store_blk (hgd : o.guard = none) (ty : TypeId) (x y : Operand) (ho : o.op = .store ty x y)
    (g : Nat) (cs : List Value) (hx : a.eval x = .pointer (some ⟨g, 0, none⟩)) (hy : a.eval y = .agg cs.toArray)
    {t : TypeId} {old : List Value} (hg : Blk w g t old) (hi : (P.info? ty).map (·.size) = some cs.length)
    (hold : old.length = cs.length) (h1 : cs.toArray.all (·.oneCell') = true)
    (h : wpListIn Fence.wide m P ops Q rest (a.put o.dst undef) (w.setRow g cs.toArray)) : wpListIn Fence.wide m P ops Q (o :: rest) a w :=
  wpListIn_plain hgd fun K hK => operIn_wide (by rw [ho]; intro c hc; cases hc) (wp_store_row ty x y ho g cs.toArray hx hy t old.toArray hg (by simpa using hi) (by simpa using hold) h1 (hK _ _ h))
end
theorem KeepsOthers.of_below {W W' : World} (h : Below W.heap.size W W') : KeepsOthers W W' :=
  ⟨h.size, fun k o hk _ => by rw [h.block k (Array.getElem?_eq_some_iff.1 hk).1]; exact hk⟩
theorem KeepsOthers.of_row {W : World} {b : Nat} {t : TypeId} {vs : List Value} (h : Blk W b t vs) (cs : Array Value) : KeepsOthers W (W.setRow b cs) := by
  refine ⟨by simp, fun k o hk ho => ?_⟩
  by_cases e : k = b
  · subst e
    unfold Blk at h
    rw [h] at hk
    cases hk
    cases ho
  · rw [setRow_other W b k cs e]; exact hk
theorem Blk.kept {W W' : World} {b : Nat} {t : TypeId} {vs : List Value} {row : Option Nat} (h : Blk W b t vs) (hg : W.grownBy W' row) (hrow : ∀ r, row = some r → ∃ o : Obj, W.heap[r]? = some o ∧ o.isCells = false) : Blk W' b t vs :=
  (grownBy_keeps_cells hg hrow h rfl).trans h
end Go.Proofs.Ytloogjdojojehaa
namespace Go.Proofs.Ytloogjdojojehaa
open Go.RowKit
set_option linter.unusedVariables false

theorem OwnB.kept {W W' : World} {base : Nat} {e : TypeId} {v : Value} {l : List Int} {row : Option Nat} (h : OwnB W base e v l) (hg : W.grownBy W' row) (hrow : ∀ r, row = some r → ∃ o : Obj, W.heap[r]? = some o ∧ o.isCells = false) : OwnB W' base e v l := by
  obtain ⟨h1, h2⟩ := h
  refine ⟨h1, ?_⟩
  rcases h2 with h2 | ⟨g, cap, cur, hv, hg', hh, r⟩
  · exact .inl h2
  · exact .inr ⟨g, cap, cur, hv, hg', (grownBy_keeps_cells hg hrow hh rfl).trans hh, r⟩
theorem Blk.grown {W W' : World} {b g : Nat} {t : TypeId} {vs : List Value} (h : Blk W b t vs) (hg : W.grownBy W' (some g)) (hne : b ≠ g) : Blk W' b t vs := by
  have h' := h
  unfold Blk at h' ⊢
  rw [hg.block b h.lt (by simp; omega)]
  exact h'
section
variable {P : Program} {m : Nat} {ops : Array Oper} {rest : List Oper} {o : Oper} {a : Act} {w : World} {Q : Exit → Act → World → Prop}
theorem wpListIn_load_blkR (l : Nat) (hgd : o.guard = none) (ty : TypeId) (x : Operand) (ho : o.op = .load ty x)
    (g : Nat) (hx : a.eval x = .pointer (some ⟨g, 0, none⟩)) {t : TypeId} {cs : List Value} {d : TypeDesc} (hg : Blk w g t cs)
    (hu : P.underlying ty = some d) (hd : (match d with | .struct _ | .array _ _ => true | _ => false) = true) (hi : (P.info? ty).map (·.size) = some cs.length)
    (h : wpListIn (Fence.wide.inRound l) m P ops Q rest (a.put o.dst (.agg cs.toArray)) w) : wpListIn (Fence.wide.inRound l) m P ops Q (o :: rest) a w :=
  wpListIn_plain hgd fun K hK => operIn_of (K := fun a w => K a w) l (by rw [ho]; intro c hc; cases hc) (fun _ _ h => h) (wp_load_row ty x ho g hx t cs.toArray (0, 0) d hg hu hd (by simpa using hi) (hK _ _ h))
theorem wpListIn_store_blkR (l : Nat) (hgd : o.guard = none) (ty : TypeId) (x y : Operand) (ho : o.op = .store ty x y)
    (g : Nat) (cs : List Value) (hx : a.eval x = .pointer (some ⟨g, 0, none⟩)) (hy : a.eval y = .agg cs.toArray)
    {t : TypeId} {old : List Value} (hg : Blk w g t old) (hi : (P.info? ty).map (·.size) = some cs.length)
    (hold : old.length = cs.length) (h1 : cs.toArray.all (·.oneCell') = true)
    (h : wpListIn (Fence.wide.inRound l) m P ops Q rest (a.put o.dst undef) (w.setRow g cs.toArray)) : wpListIn (Fence.wide.inRound l) m P ops Q (o :: rest) a w :=
  wpListIn_plain hgd fun K hK => operIn_of (K := fun a w => K a w) l (by rw [ho]; intro c hc; cases hc) (fun _ _ h => h) (wp_store_row ty x y ho g cs.toArray hx hy t old.toArray hg (by simpa using hi) (by simpa using hold) h1 (hK _ _ h))
theorem wpListIn_alloc_atR (l : Nat) (hgd : o.guard = none) (t : TypeId) (ho : o.op = .alloc t) (v : Value) (ob : Obj) (hrun : (Instr.alloc t true (.tuple #[])).run P w = .ok v (w.alloc ob))
    (h : wpListIn (Fence.wide.inRound l) m P ops Q rest (a.put o.dst v) (w.alloc ob)) : wpListIn (Fence.wide.inRound l) m P ops Q (o :: rest) a w :=
  wpListIn_plain hgd fun K hK => operIn_of (K := fun a w => K a w) l (by rw [ho]; intro c hc; cases hc) (fun _ _ h => h) (by
    unfold Oper.wp execOp
    simp only [ho, Sem.run_bind, hrun, Result.andThen_ok]
    exact hK _ _ h)
end
theorem OwnB.keep {w w' : World} {base : Nat} {e : TypeId} {v : Value} {l : List Int} (h : OwnB w base e v l) (hb : Below w.heap.size w w') : OwnB w' base e v l := h.below hb (fun k hk => (h.lt k hk).2)
theorem OwnB.other {w : World} {base : Nat} {e : TypeId} {g n cap : Nat} {l : List Int} (h : OwnB w base e (.slice (some ⟨g, 0, none⟩) n cap) l) {b : Nat} (hb : b ≠ g) (V : Value) : OwnB (w.setCell ⟨b, 0, none⟩ V) base e (.slice (some ⟨g, 0, none⟩) n cap) l := by
  obtain ⟨h1, h2⟩ := h
  refine ⟨h1, ?_⟩
  rcases h2 with h2 | ⟨g', cap', cur, hv, hg, hh, r⟩
  · exact .inl h2
  · cases hv
    refine .inr ⟨g, cap, cur, rfl, hg, ?_, r⟩
    rw [(grownBy_setCell' w b V).block g (Array.getElem?_eq_some_iff.1 hh).1 (by simp; omega)]
    exact hh
theorem fold_one (p : Tmp) (v : Value) (t : Array Value) : (#[p].zip #[v]).foldl (fun t (p, v) => t.setIfInBounds p v) t = t.setIfInBounds p v := by simp
theorem Blk.grownO {W W' : World} {b : Nat} {t : TypeId} {vs : List Value} {row : Option Nat} (h : Blk W b t vs) (hg : W.grownBy W' row) (hne : ∀ i, row = some i → i ≠ b) : Blk W' b t vs := by
  have h' := h
  unfold Blk at h' ⊢
  rw [hg.block b h.lt (fun e => hne b e.symm rfl)]
  exact h'
end Go.Proofs.Ytloogjdojojehaa
namespace Go.Proofs.Ytloogjdojojehaa
open Go.RowKit
set_option linter.unusedVariables false

section
variable {P : Program} {ops : Array Oper} {C : World → Prop}
theorem operIn_wide_quiet {n : Nat} {o : Oper} {a : Act} {w : World} {K : Act → World → Prop} {Q : Exit → Act → World → Prop} (hd : ∀ c, o.op ≠ .defer c)
    (h : o.wp P a w K (fun _ _ _ => False)) : o.wpIn Fence.wide n P a w K Q := by
  refine ⟨fun _ _ => trivial, ?_⟩
  rw [Oper.semAt_plain _ _ _ hd]
  unfold Oper.wp at h
  generalize (execOp a.eval o).run P w = r at h ⊢
  cases r with
  | ok x w' =>
    cases x <;> simp only [Oper.upon, Oper.uponIn] at h ⊢
    case value => exact h
    case skip => exact h
    case defer => exact h
    case enter =>
      refine ⟨fun e => by simp [Fence.wide] at e, callsIn_wide.2 (h.mono ?_)⟩
      intro e w'' he
      cases e <;> first | exact he | (obtain ⟨_, _, h'⟩ := he; cases h') | cases he
    case row => exact ⟨fun e => by simp [Fence.wide] at e, (fun c cs _ => let ⟨v, w', r, s⟩ := h c cs; ⟨v, w', r, stepsIn_wide.2 s⟩)⟩
  | halt x w' => cases x <;> simp only [Oper.upon] at h
theorem opIn_wide_of {n i : Nat} {a : Act} {w : World} {K : Act → World → Prop} {Q : Exit → Act → World → Prop} (hd : noDefer ops = true)
    (h : wpOp P ops (fun _ _ _ => False) i K a w) : wpOpIn Fence.wide n P ops Q i K a w := by
  unfold wpOp at h
  unfold wpOpIn
  cases ho : ops[i]? with
  | none => simp only [ho] at h; exact h
  | some o =>
    simp only [ho] at h
    by_cases hw : Region.wanted o (yielded ops a.tmps) = true
    · simp only [hw, if_true] at h ⊢
      rcases h with h' | ⟨_, h'⟩
      · exact operIn_wide_quiet (noDefer_spec hd ho) h'
      · obtain ⟨_, _, h'⟩ := h'; exact h'.elim
    · simp only [hw] at h ⊢
      exact ⟨fun _ _ => trivial, h⟩

theorem transferG {n : Nat} (hl : lexical ops = true) (hs : Region.sinkB .any ops n = true) (hc : Region.chainB .any ops n = true) (hn : n < ops.size)
    {Q : Act → Prop} {g : Nat} (G : Nat → Array Bool → Act → World → Prop)
    (hstep : ∀ (fuel : Nat) (listed : Array Bool) (a : Act) (w : World), Region.ready .any ops listed ≠ [] → (∀ k ∈ Region.ready .any ops listed, wpOp P ops (fun _ _ _ => False) k (G fuel (listed.setIfInBounds k true)) a w) → G (fuel + 1) listed a w)
    (hfin : ∀ (listed : Array Bool) (a : Act) (w : World), HeadInv .any ops n listed → (∀ i, i < n → listed.getD i true = true) → C w → Q a → G g listed a w) :
    ∀ (f : Nat) (listed : Array Bool) (a : Act) (w : World), HeadInv .any ops n listed → f ≤ un listed n → C w →
      wpAnyQ P .any (ops.extract 0 n) C Q f (listed.extract 0 n) a → G (f + g) listed a w := by
  have first : ∀ (listed : Array Bool), HeadInv .any ops n listed → ∀ i, i < n → listed.getD i true = false → ∃ k, k < n ∧ k ∈ Region.ready .any ops listed := by
    intro listed inv i
    induction i using Nat.strongRecOn with
    | _ i ih =>
      intro hi hun
      have hio : i < ops.size := by omega
      obtain ⟨oi, hoi⟩ : ∃ oi, ops[i]? = some oi := ⟨_, Array.getElem?_eq_getElem hio⟩
      by_cases hall : ∀ e ∈ oi.after, Region.binds .any e = true → listed.getD e.on false = true
      · exact ⟨i, hi, mem_ready.2 ⟨hun, oi, hoi, hall⟩⟩
      · obtain ⟨e, he⟩ := Classical.not_forall.1 hall
        obtain ⟨he1, he2⟩ := Classical.not_forall.1 he
        obtain ⟨he3, he4⟩ := Classical.not_forall.1 he2
        have hlt := (lexical_spec hl hoi).2 e he1 he3
        have : listed.getD e.on true = false := by
          have hsz : e.on < listed.size := by rw [inv.size]; omega
          simp [hsz] at he4 ⊢
          exact he4
        exact ih e.on hlt (by omega) this
  have up : ∀ (listed : Array Bool), HeadInv .any ops n listed → ∀ i, i < n → i ∈ Region.ready .any ops listed → i ∈ Region.ready .any (ops.extract 0 n) (listed.extract 0 n) := by
    intro listed inv i hi hr
    obtain ⟨h1, oi, hoi, h3⟩ := mem_ready.1 hr
    refine mem_ready.2 ⟨by rw [extract_getD _ _ _ hi]; exact h1, oi, ?_, fun e he hb => ?_⟩
    · rw [Array.getElem?_extract, if_pos (by omega)]; simpa using hoi
    · have := (lexical_spec hl hoi).2 e he hb
      rw [extract_getD _ _ _ (by omega)]
      exact h3 e he hb
  have down : ∀ (listed : Array Bool), HeadInv .any ops n listed → Region.ready .any (ops.extract 0 n) (listed.extract 0 n) = [] → ∀ i, i < n → listed.getD i true = true := by
    intro listed inv h0 i hi
    cases hu : listed.getD i true with
    | true => rfl
    | false =>
      obtain ⟨k, hk, hr⟩ := first listed inv i hi hu
      have := up listed inv k hk hr
      rw [h0] at this
      cases this
  intro f
  induction f with
  | zero =>
    intro listed a w inv _ hC h
    rw [Nat.zero_add]
    exact hfin listed a w inv (down listed inv h.1) hC h.2
  | succ f ih =>
    intro listed a w inv hun hC h
    obtain ⟨i, hi, hu⟩ := un_pos listed n (by omega)
    rw [show f + 1 + g = (f + g) + 1 by omega]
    refine hstep _ _ _ _ (fun h0 => ?_) (fun k hk => ?_)
    · obtain ⟨k, _, hr⟩ := first listed inv i hi hu
      rw [h0] at hr; cases hr
    · have hkn : k < n := by
        rcases Nat.lt_or_ge k n with h' | h'
        · exact h'
        · exact absurd hk (tail_waits hs hc hn inv _ i rfl hi hu k h')
      have hq := h.2 k (up listed inv k hkn hk)
      obtain ⟨_, ok, hok, _⟩ := mem_ready.1 hk
      have hgd := (lexical_spec hl hok).1
      have hq' : qOp P ops C k (wpAnyQ P .any (ops.extract 0 n) C Q f ((listed.setIfInBounds k true).extract 0 n)) a := by
        rw [extract_set _ _ _ hkn]
        unfold qOp at hq ⊢
        have e1 : (ops.extract 0 n)[k]? = some ok := by rw [Array.getElem?_extract, if_pos (by omega)]; simpa using hok
        have e2 : Region.wanted ok (yielded (ops.extract 0 n) a.tmps) = Region.wanted ok (yielded ops a.tmps) := wanted_same fun i want hg => by
          have := hgd i want hg
          simp only [yielded, Array.getElem?_extract]
          rw [if_pos (by omega), Nat.zero_add]
        simp only [e1, hok, e2] at hq ⊢
        exact hq
      have hcnt := un_set listed k n
      exact wpOp_of_qOp hC (fun a' w' hC' hK => ih _ a' w' (inv.set hk hkn) (by omega) hC' hK) hq'

theorem anyIn_of_seq {F : Fence} {m : Nat} {Q' : Exit → Act → World → Prop} : ∀ (l : List Oper) (k : Nat) (listed : Array Bool) (a : Act) (w : World), (∀ j, l[j]? = ops[k + j]?) →
    Region.seqB .any ops l.length k listed = true → wpListIn F m P ops Q' l a w → wpAnyIn F m P .any ops Q' l.length listed a w
  | [], _, _, _, _, _, hB, h => ⟨by simpa [Region.seqB] using hB, h⟩
  | o :: l, k, listed, a, w, hl, hB, h => by
    have h0 : ops[k]? = some o := by simpa using (hl 0).symm
    simp only [List.length_cons, Region.seqB, Bool.and_eq_true, decide_eq_true_eq] at hB
    refine ⟨fun h1 => (by rw [hB.1] at h1; cases h1), fun i hi => ?_⟩
    rw [hB.1] at hi
    have hik : i = k := by simpa using hi
    subst hik
    have hw : wpOpIn F m P ops Q' i (wpListIn F m P ops Q' l) a w := by unfold wpOpIn; simp only [h0]; exact h
    exact wpOpIn_mono (fun a' w' h' => anyIn_of_seq l (i + 1) _ a' w' (fun j => by have := hl (j + 1); simpa [Nat.add_assoc, Nat.add_comm 1 j] using this) hB.2 h') hw

/-- the heads are quiet, the tail may call yield -/
theorem regionIn_wide_tail {m : Nat} {id : Nat} {Q' : Exit → Act → World → Prop} {a : Act} {w : World} {l : List Oper} (n : Nat) (hm : P.follows .mixedOrders = true) (hd : noDefer l.toArray = true) (hB : tailB l.toArray n = true)
    (hC : C w.drew) (h : wpQuiet P (l.take n).toArray C (fun a' => ∀ w', C w' → wpListIn Fence.wide m P l.toArray Q' (l.drop n) a' w') (l.take n) a) : (Code.region id l.toArray true).wpIn Fence.wide m P Q' a w := by
  refine wpIn_region_any hm ?_
  simp only [tailB, Bool.and_eq_true, decide_eq_true_eq] at hB
  obtain ⟨⟨⟨⟨⟨hl, hn⟩, hs⟩, hc⟩, hx⟩, hq⟩ := hB
  have hn' : n < l.length := by simpa using hn
  have htl : (l.take n).length = n := by simp; omega
  have hext : l.toArray.extract 0 n = (l.take n).toArray := by simp
  have inv0 : HeadInv .any l.toArray n (Array.replicate l.toArray.size false) :=
    ⟨by simp, fun j oj _ hl' => (by rw [getD_replicate_false] at hl'; cases hl'), fun t _ ht => getD_in (by simpa using ht) (getD_replicate_false _ _)⟩
  rw [hext] at hx
  simp only [Region.lexB, Bool.and_eq_true] at hx
  have H0 := wpAnyQ_lex (P := P) (C := C) (md := .any) hx.1 (l.take n) 0 (Array.replicate (l.take n).toArray.size false) a (by simp) (by simpa using hx.2) h
  rw [htl] at H0
  have hrep : (Array.replicate l.toArray.size false).extract 0 n = Array.replicate (l.take n).toArray.size false := by
    simp
  have := transferG (P := P) (C := C) (g := l.toArray.size - n) hl hs hc hn (Q := fun a' => ∀ w', C w' → wpListIn Fence.wide m P l.toArray Q' (l.drop n) a' w') (fun f ls a' w' => wpAnyIn Fence.wide m P .any l.toArray Q' f ls a' w')
    (fun fuel listed a' w' hne hk => ⟨fun h0 => absurd h0 hne, fun k hk' => opIn_wide_of hd (hk k hk')⟩)
    (fun listed a' w' inv hall hC' hQ => by
      have hlisted : listed = headsDone n l.toArray.size := by
        apply Array.ext
        · simp [headsDone, inv.size]
        · intro i h1 h2
          by_cases hi : i < n
          · have := hall i hi
            simp [h1] at this
            simp [headsDone, hi, this]
          · have := inv.tail i (by omega) (by rw [inv.size] at h1; exact h1)
            simp [h1] at this
            simp [headsDone, hi, this]
      have hz := anyIn_of_seq (F := Fence.wide) (m := m) (Q' := Q') (l.drop n) n listed a' w' (fun j => by simp [List.getElem?_drop]) (by rw [hlisted]; simpa using hq) (hQ w' hC')
      simpa using hz) n (Array.replicate l.toArray.size false) a w.drew inv0 (by rw [un_all _ n (fun i hi => getD_in (by simpa using (by omega)) (getD_replicate_false _ _))]; omega) hC (by rw [hrep, hext]; exact H0)
  rw [show n + (l.toArray.size - n) = l.toArray.size by omega] at this
  exact this
end
theorem grown_below {w w' : World} (h : Below w.heap.size w w') : w.grownBy w' none := ⟨h.os, h.tape, h.output, h.size, fun k hk _ => h.block k hk⟩

/-- The iterator goes on till it is told to stop; that this comes, the caller says (fewer than N have come whenever it goes on). -/
def SeqTill {α : Type} (n : Nat) (P : Program) (g : Nat) (lb : Array Value) (encs : α → Array Value) (Kp : World → World → Prop) (Sp : List α → Prop) (N : Nat) (w : World) : Prop :=
  ∀ (l : Nat) (J Jx : List α → World → Prop) (W : World), Below w.heap.size w W → AbidesFrom W.heap.size J → AbidesFrom W.heap.size Jx → (∀ pre W1, J pre W1 → pre.length < N) →
    (∀ pre x W1, J pre W1 → YieldAt Fence.wide (n - 1) P l (encs x) W1 fun e W' => (e = .returned (.bool true) ∧ J (pre ++ [x]) W' ∧ Kp W1 W') ∨ (e = .returned (.bool false) ∧ Jx (pre ++ [x]) W')) →
    J [] W → CallsIn Fence.wide n P g (#[.func (.yield l) #[] #[]] ++ lb) W fun e W' => (∃ v, e = .returned v) ∧ ∃ pre, Sp pre ∧ Jx pre W'

/-- how a round may be left: it goes on, or leaves by the jump j -/
def tillPost (B : Nat) (j : Nat) (Kp : World → World → Prop) (I Ix : World → Prop) (W : World) : Exit → Act → World → Prop
  | .normal, _, W' => KeepsFrom B W W' ∧ Kp W W' ∧ I W'
  | .exit i, _, W' => i = j ∧ KeepsFrom B W W' ∧ Ix W'
  | _, _, _ => False

/-- what the loop's book-keeping has at its two blocks, B and B + 1 -/
structure Booked (B : Nat) (rc : Loop) (W : World) : Prop where
  loop : W.heap[B + 1]? = some (.loop rc)
  late : W.heap[B]? = some (.deferred (some []))
theorem Booked.lt {B : Nat} {rc : Loop} {W : World} (h : Booked B rc W) : B + 1 < W.heap.size := (Array.getElem?_eq_some_iff.1 h.loop).1
theorem Booked.turn {B : Nat} {rc : Loop} {W : World} (h : Booked B rc W) (rc' : Loop) : Booked B rc' (W.putObj (B + 1) (.loop rc')) :=
  ⟨World.putObj_heap_same h.lt, (World.putObj_heap_other (by omega)).trans h.late⟩
theorem Booked.keep {B : Nat} {rc : Loop} {W W' : World} (h : Booked B rc W) (k : KeepsFrom B W W') : Booked B rc W' :=
  ⟨k.same _ _ (by omega) h.loop rfl, k.same _ _ (Nat.le_refl _) h.late rfl⟩
theorem Booked.grown {B : Nat} {rc : Loop} {W W' : World} {row : Option Nat} (h : Booked B rc W) (hg : W.grownBy W' row) (hr : ∀ r, row = some r → ∃ o : Obj, W.heap[r]? = some o ∧ o.isWalk = true) : Booked B rc W' :=
  ⟨(grownBy_keeps hg hr h.loop rfl).trans h.loop, (grownBy_keeps hg hr h.late rfl).trans h.late⟩

variable {P : Program} {n : Nat}
/-- THE LAW: a loop over such an iterator; each round goes on or leaves by the jump j; the loop's variables may lie in memory. -/
theorem wpIn_rangeFunc_till {α : Type} {g : Operand} {ps : Array Tmp} {assign body : Code} {Q : Exit → Act → World → Prop} {a : Act} {w : World}
    (h1 : 1 ≤ n) {gf : Nat} {lb : Array Value} (hg : a.eval g = .func (.func gf) #[] lb) (eg : ∀ args w, (callFunc gf args).run P w = .ok (.enter gf args) w)
    {encs : α → Array Value} {Kp : World → World → Prop} {Sp : List α → Prop} {N : Nat} {w0 : World} (hseq : SeqTill (n - 1) P gf lb encs Kp Sp N w0)
    (hKt : ∀ {A B C : World}, Kp A B → Kp B C → Kp A C) (hKb : ∀ (W : World) (l : Nat) (o o' : Obj), w.heap.size ≤ l → W.heap[l]? = some o → o.isCells = false → o.isWalk = false → Kp W (W.putObj l o'))
    (hb0 : Below w0.heap.size w0 w) (hps : ∀ x, (encs x).size = ps.size)
    (j : Nat) (I Ix : List α → World → Prop) (hI : OwnFrom w.heap.size I) (hIx : OwnFrom w.heap.size Ix) (h0 : I [] w) (hN : ∀ pre W, I pre W → pre.length < N)
    (Ax : α → Act → World → Prop) (hAx : ∀ x a', OwnFrom w.heap.size (fun (_ : Unit) W => Ax x a' W))
    (hassign : ∀ (l : Nat) (pre : List α) (x : α) (W : World) (K : Act → World → Prop), I pre W → (∀ a' W', KeepsFrom w.heap.size W W' → Kp W W' → I pre W' → Ax x a' W' → K a' W') →
      assign.wpIn (Fence.wide.inRound l) (n - 1 - 1) P (Exit.then K (fun _ _ _ => False)) { tmps := (ps.zip (encs x)).foldl (fun t (p, v) => t.setIfInBounds p v) a.tmps, defers := [] } W)
    (hbody : ∀ (l : Nat) (pre : List α) (x : α) (a' : Act) (W : World), w.heap.size ≤ l → I pre W → Ax x a' W → body.wpIn (Fence.wide.inRound l) (n - 1 - 1) P (tillPost w.heap.size j Kp (I (pre ++ [x])) (Ix (pre ++ [x])) W) a' W)
    (hstop : ∀ (D : Nat) (pre : List α) (W : World), w.heap.size ≤ D → Sp pre → Ix pre W → W.heap[D]? = some (.deferred (some [])) → (Code.exit j).wpIn Fence.wide n P Q { a with defers := { target := .collected D, args := #[] } :: a.defers } W) :
    (Code.rangeFunc g ps assign body).wpIn Fence.wide n P Q a w := by
  refine wpIn_rangeFunc fun fn hfn => ?_
  obtain ⟨rc, hrc⟩ : ∃ rc : LoopState → Option Code → Loop, rc = fun st pe => { state := st, pending := pe, fn, tmps := a.tmps, params := ps, assign, body, defers := w.heap.size } := ⟨_, rfl⟩
  obtain ⟨W1, hW1⟩ : ∃ W1, W1 = (w.alloc (.deferred (some []))).alloc (.loop (rc .ready none)) := ⟨_, rfl⟩
  have hbk : Booked w.heap.size (rc .ready none) W1 := by
    subst hW1
    refine ⟨?_, (Below.heap_alloc _ _ _ (by simp)).trans (World.alloc_heap_new w _)⟩
    have := World.alloc_heap_new (w.alloc (.deferred (some []))) (.loop (rc .ready none))
    rwa [World.size_alloc] at this
  have hI1 : I [] W1 := hW1 ▸ hI.alloc _ (hI.alloc _ h0)
  have hsz : w.heap.size + 2 = W1.heap.size := by subst hW1; simp
  have hb1 : Below w0.heap.size w0 W1 := by
    subst hW1
    exact hb0.trans ((((Below.refl _ w).alloc (Nat.le_refl _) _).alloc (by simp) _).mono hb0.size)
  have turns : ∀ (W : World) (r r' : Loop), Booked w.heap.size r W → Kp W (W.putObj (w.heap.size + 1) (.loop r')) := fun W r r' h => hKb _ _ _ _ (by omega) h.loop rfl rfl
  have hrow : ∀ {A : World} {row : Option Nat}, (∀ r, row = some r → W1.heap.size ≤ r ∧ ∃ o : Obj, A.heap[r]? = some o ∧ o.isWalk = true) → ∀ r, row = some r → w.heap.size ≤ r ∧ ∃ o : Obj, A.heap[r]? = some o ∧ o.isCells = false :=
    fun hr r e => by
      obtain ⟨q1, o, q2, q3⟩ := hr r e
      exact ⟨by omega, o, q2, Obj.not_cells_of_walk q3⟩
  refine ⟨w.heap.size + 1, [{ target := .collected w.heap.size, args := #[] }], W1, { target := .fn (.func gf) lb, args := #[.func (.yield (w.heap.size + 1)) #[] #[]] }, W1, gf,
    #[.func (.yield (w.heap.size + 1)) #[] #[]] ++ lb, W1, ?_, ?_, fun f' _ => trivial, ?_, fun _ => h1, ?_⟩
  · rw [hW1, hrc]; exact run_enterLoop_outer _ _ _ _ _
  · simp only [resolve, hg]
    simp [go_sem]
  · simp [invoke, go_sem, eg]
  refine (hseq (w.heap.size + 1) (fun pre W => I pre W ∧ Booked w.heap.size (rc .ready none) W) (fun pre W => Ix pre W ∧ Booked w.heap.size (rc .done (some (Code.exit j))) W) W1 hb1
    (fun s A B row hs hg' hr => ⟨hI s A B row hs.1 hg' (hrow hr), hs.2.grown hg' (fun r e => (hr r e).2)⟩)
    (fun s A B row hs hg' hr => ⟨hIx s A B row hs.1 hg' (hrow hr), hs.2.grown hg' (fun r e => (hr r e).2)⟩)
    (fun pre W h => hN pre W h.1) ?_ ⟨hI1, hbk⟩).mono ?_
  · rintro pre x W ⟨hi, hk⟩
    have hy := run_yield (P := P) (args := encs x) hk.loop (by rw [hrc]; exact hps x)
    rw [hrc] at hy
    refine ⟨fn, _, assign, body, hy, roundIn_of_wpIn trivial (hassign _ pre x W _ hi fun a' Wa ka kp hia hax => ?_)⟩
    have hka := hk.keep ka
    refine ⟨_, run_beginRound hka.loop (by rw [hrc]), ?_⟩
    have hkb := hka.turn { rc .ready none with state := .busy }
    refine wpIn_mono (hbody _ pre x a' _ (by omega) (hI.putObj _ hia (by omega) hka.loop rfl) ((hAx x a').putObj (s := ()) _ hax (by omega) hka.loop rfl)) ?_
    have fin : ∀ (jump : Option Code) (W3 : World), Booked w.heap.size { rc .ready none with state := .busy } W3 → (Instr.endRound (w.heap.size + 1) jump).run P W3 = .ok (.bool jump.isNone) (W3.putObj (w.heap.size + 1) (.loop (rc (if jump.isNone then .ready else .done) jump))) := fun jump W3 h3 => by
      have := run_endRound (P := P) jump h3.loop
      rw [hrc] at this ⊢
      exact this
    rintro e a3 W3 hp
    cases e with
    | normal =>
      obtain ⟨k3, kp3, i3⟩ := hp
      have h3 := hkb.keep k3
      exact ⟨_, _, fin none W3 h3, .inl ⟨rfl, ⟨hI.putObj _ i3 (by omega) h3.loop rfl, h3.turn _⟩, hKt kp (hKt (hKt (turns _ _ _ hka) kp3) (turns _ _ _ h3))⟩⟩
    | exit id =>
      obtain ⟨rfl, k3, i3⟩ := hp
      have h3 := hkb.keep k3
      exact ⟨_, _, fin (some (.exit id)) W3 h3, .inr ⟨rfl, hIx.putObj _ i3 (by omega) h3.loop rfl, h3.turn _⟩⟩
    | ret => exact hp.elim
    | goto t => exact hp.elim
    | panic ch => exact hp.elim
    | outgrown => exact hp.elim
  · rintro e W2 ⟨⟨v, rfl⟩, pre, hSp, hi, hk⟩
    have := run_endLoop (P := P) hk.loop (by rw [hrc]; simp)
    rw [hrc] at this
    exact ⟨some (.exit j), _, this, hstop _ pre _ (Nat.le_refl _) hSp (hIx.putObj _ hi (by omega) hk.loop rfl) ((World.putObj_heap_other (by omega)).trans hk.late)⟩
end Go.Proofs.Ytloogjdojojehaa
namespace Go.Proofs.Ytloogjdojojehaa
open Go.RowKit
set_option linter.unusedVariables false

section
variable {P : Program}
theorem un_set_lt (b : Array Bool) (k : Nat) (hk : b.getD k true = false) : ∀ m, k < m → un (b.setIfInBounds k true) m + 1 ≤ un b m
  | 0, h => by omega
  | m + 1, h => by
    have hks : k < b.size := by
      rcases Nat.lt_or_ge k b.size with h' | h'
      · exact h'
      · rw [Array.getD_eq_getD_getElem?, Array.getElem?_eq_none h'] at hk; cases hk
    by_cases hm : m = k
    · subst hm
      have h1 : (b.setIfInBounds m true).getD m true = true := by
        simp only [Array.getD_eq_getD_getElem?]
        rw [Array.getElem?_setIfInBounds_self_of_lt hks]
        rfl
      simp only [un, un_set_low b m m (Nat.le_refl _), h1, hk, if_true]
      simp
    · have h1 : (b.setIfInBounds k true).getD m true = b.getD m true := by
        simp only [Array.getD_eq_getD_getElem?]
        rw [Array.getElem?_setIfInBounds_ne (by omega)]
      have := un_set_lt b k hk m (by omega)
      simp only [un, h1]
      omega
theorem oper_monoQ {o : Oper} {a : Act} {w : World} {K : Act → World → Prop} {Q Q' : Exit → Act → World → Prop} (hp : ∀ c a w, Q (.panic c) a w → False) (ho : ∀ a w, Q .outgrown a w → False)
    (h : o.wp P a w K Q) : o.wp P a w K Q' := by
  unfold Oper.wp at h ⊢
  generalize (execOp a.eval o).run P w = r at h ⊢
  cases r with
  | ok x w' =>
    cases x <;> simp only [Oper.upon] at h ⊢
    case value => exact h
    case skip => exact h
    case defer => exact h
    case enter =>
      refine h.mono ?_
      intro e w'' he
      cases e
      · exact he
      · exact (hp _ _ _ he).elim
      · obtain ⟨a', w', he⟩ := he; exact (ho _ _ he).elim
    case row => exact h
  | halt x w' =>
    cases x <;> simp only [Oper.upon] at h ⊢
    all_goals first | exact h | exact (hp _ _ _ h).elim | exact (ho _ _ h).elim | (obtain ⟨a', w', he⟩ := h; exact (ho _ _ he).elim)
/-- THE LAW. -/
theorem region_inv {id : Nat} {Q' : Exit → Act → World → Prop} {a : Act} {w : World} {l : List Oper} (hm : P.follows .mixedOrders = true) (hl : lexical l.toArray = true)
    (Inv : (Nat → Bool) → Act → World → Prop) (h0 : Inv (fun _ => false) a w.drew)
    (hext : ∀ L L' a w, (∀ i, i < l.length → L i = L' i) → Inv L a w → Inv L' a w)
    (hstep : ∀ (L : Nat → Bool) (a : Act) (w : World) (i : Nat) (o : Oper), Inv L a w → l[i]? = some o → L i = false → (∀ e ∈ o.after, Region.binds .any e = true → L e.on = true) →
      wpList P l.toArray (Exit.then (Inv (fun j => j == i || L j)) (fun _ _ _ => False)) [o] a w)
    (hend : ∀ (a : Act) (w : World), Inv (fun _ => true) a w → Q' .normal a w) : (Code.region id l.toArray true).wp P Q' a w := by
  have hstart : Inv (fun i => (Array.replicate l.length false).getD i false) a w.drew := hext _ _ _ _ (fun i hi => by simp [hi]) h0
  have first : ∀ (listed : Array Bool), listed.size = l.length → ∀ i, i < l.length → listed.getD i true = false → ∃ k, k < l.length ∧ k ∈ Region.ready .any l.toArray listed := by
    intro listed hsz i
    induction i using Nat.strongRecOn with
    | _ i ih =>
      intro hi hun
      obtain ⟨oi, hoi⟩ : ∃ oi, l.toArray[i]? = some oi := ⟨_, Array.getElem?_eq_getElem (by simpa using hi)⟩
      by_cases hall : ∀ e ∈ oi.after, Region.binds .any e = true → listed.getD e.on false = true
      · exact ⟨i, hi, mem_ready.2 ⟨hun, oi, hoi, hall⟩⟩
      · obtain ⟨e, he⟩ := Classical.not_forall.1 hall
        obtain ⟨he1, he2⟩ := Classical.not_forall.1 he
        obtain ⟨he3, he4⟩ := Classical.not_forall.1 he2
        have hlt := (lexical_spec hl hoi).2 e he1 he3
        have : listed.getD e.on true = false := by
          have hsz : e.on < listed.size := by omega
          simp [hsz] at he4 ⊢
          exact he4
        exact ih e.on hlt (by omega) this
  have key : ∀ (f : Nat) (listed : Array Bool) (a : Act) (w : World), listed.size = l.length → un listed l.length ≤ f → Inv (fun i => listed.getD i false) a w → wpAny P .any l.toArray Q' f listed a w := by
    have fin : ∀ (listed : Array Bool) (a : Act) (w : World), listed.size = l.length → Region.ready .any l.toArray listed = [] → Inv (fun i => listed.getD i false) a w → Q' .normal a w := by
      intro listed a w hsz hr hI
      refine hend a w (hext _ _ _ _ (fun i hi => ?_) hI)
      cases hg : listed.getD i true with
      | true =>
        have hs : i < listed.size := by omega
        simp [hs] at hg ⊢
        exact hg
      | false =>
        obtain ⟨k, _, hk⟩ := first listed hsz i hi hg
        rw [hr] at hk
        cases hk
    intro f
    induction f with
    | zero =>
      intro listed a w hsz hun hI
      have hr : Region.ready .any l.toArray listed = [] := by
        refine List.eq_nil_iff_forall_not_mem.2 fun i hi => ?_
        obtain ⟨h1, oi, hoi, _⟩ := mem_ready.1 hi
        have hil : i < l.length := by simpa using (Array.getElem?_eq_some_iff.1 hoi).1
        have := un_set_lt listed i h1 l.length hil
        omega
      exact ⟨hr, fin listed a w hsz hr hI⟩
    | succ f ih =>
      intro listed a w hsz hun hI
      refine ⟨fun hr => fin listed a w hsz hr hI, fun i hi => ?_⟩
      obtain ⟨h1, o, ho, hdep⟩ := mem_ready.1 hi
      have hil : i < l.length := by simpa using (Array.getElem?_eq_some_iff.1 ho).1
      have hL : listed.getD i false = false := by
        have hs : i < listed.size := by omega
        simp [hs] at h1 ⊢
        exact h1
      have hs := hstep _ a w i o hI (by simpa using ho) hL hdep
      have hnext : ∀ a' w', Inv (fun j => j == i || listed.getD j false) a' w' → wpAny P .any l.toArray Q' f (listed.setIfInBounds i true) a' w' := fun a' w' hI' =>
        ih _ a' w' (by simpa using hsz) (by have := un_set_lt listed i h1 l.length hil; omega) (hext _ _ _ _ (fun j hj => by
          by_cases e : j = i
          · subst e
            simp only [beq_self_eq_true, Bool.true_or, Array.getD_eq_getD_getElem?]
            rw [Array.getElem?_setIfInBounds_self_of_lt (by omega)]
            rfl
          · simp only [Array.getD_eq_getD_getElem?]
            rw [Array.getElem?_setIfInBounds_ne (by omega)]
            simp [e]) hI')
      unfold wpList at hs
      unfold wpOp
      simp only [ho]
      split at hs
      · rename_i hw
        rw [if_pos hw]
        rcases hs with hs | ⟨_, a', w', hs⟩
        · exact .inl (oper_monoQ (fun _ _ _ h => h) (fun _ _ h => h) (Oper.wp_mono (fun a' w' h => hnext a' w' h) hs))
        · exact hs.elim
      · rename_i hw
        rw [if_neg hw]
        exact hnext _ _ hs
  refine wp_region_any hm (key _ _ _ _ (by simp) ?_ (by simpa using hstart))
  rw [un_all _ l.length (fun i hi => getD_in (by simpa using hi) (getD_replicate_false _ _))]
  simp
end
end Go.Proofs.Ytloogjdojojehaa
namespace Go.Proofs.Ytloogjdojojehaa
open Go.RowKit
set_option linter.unusedVariables false

section
variable {P : Program}
def upd (u : Nat → Value) (i : Nat) (v : Value) : Nat → Value := fun j => if j = i then v else u j
theorem upd_same (u : Nat → Value) (i : Nat) (v : Value) : upd u i v i = v := if_pos rfl
theorem upd_other (u : Nat → Value) (i j : Nat) (v : Value) (h : j ≠ i) : upd u i v j = u j := if_neg h
/-- what an operation must come to: its value, by its spec, and no more than new memory -/
def Came (F : (Nat → Value) → Array Value) (D : List Deferred) (C : World → Prop) (Φ : Value → World → Prop) (u : Nat → Value) (i : Nat) (W : World) (a : Act) (W' : World) : Prop :=
  ∃ v, a = ⟨F (upd u i v), D⟩ ∧ Φ v W' ∧ C W' ∧ Below W.heap.size W W'
/-- THE LAW. -/
theorem region_free {id : Nat} {Q' : Exit → Act → World → Prop} {a : Act} {w : World} {l : List Oper} (hm : P.follows .mixedOrders = true) (hl : lexical l.toArray = true)
    (F : (Nat → Value) → Array Value) (D : List Deferred) (u0 : Nat → Value) (ha : a = ⟨F u0, D⟩) (C : World → Prop) (hC : C w.drew) (Φ : Nat → Value → World → Prop)
    (hΦ : ∀ i v W W', Φ i v W → C W → C W' → Below W.heap.size W W' → Φ i v W')
    (hstep : ∀ (u : Nat → Value) (W : World) (i : Nat) (o : Oper), l[i]? = some o → C W → (∀ e ∈ o.after, Region.binds .any e = true → Φ e.on (u e.on) W) →
      wpList P l.toArray (Exit.then (Came F D C (Φ i) u i W) (fun _ _ _ => False)) [o] ⟨F u, D⟩ W)
    (hend : ∀ (u : Nat → Value) (W : World), C W → (∀ i, i < l.length → Φ i (u i) W) → Q' .normal ⟨F u, D⟩ W) : (Code.region id l.toArray true).wp P Q' a w := by
  refine region_inv hm hl (fun L a W => ∃ u, a = ⟨F u, D⟩ ∧ C W ∧ ∀ i, i < l.length → L i = true → Φ i (u i) W) ⟨u0, ha, hC, fun i _ h => by cases h⟩ ?_ ?_ ?_
  · rintro L L' a W hE ⟨u, h1, h2, h3⟩
    exact ⟨u, h1, h2, fun i hi h => h3 i hi (by rw [hE i hi]; exact h)⟩
  · rintro L a W i o ⟨u, rfl, h2, h3⟩ ho hL hdep
    have hlex := (lexical_spec hl (show l.toArray[i]? = some o by simpa using ho)).2
    have hil : i < l.length := (List.getElem?_eq_some_iff.1 ho).1
    have hs := hstep u W i o ho h2 (fun e he hb => h3 e.on (by have := hlex e he hb; omega) (hdep e he hb))
    have fin : ∀ a' W', Came F D C (Φ i) u i W a' W' → ∃ u', a' = ⟨F u', D⟩ ∧ C W' ∧ ∀ j, j < l.length → (j == i || L j) = true → Φ j (u' j) W' := by
      rintro a' W' ⟨v, q1, q2, q3, q4⟩
      refine ⟨upd u i v, q1, q3, fun j hj h => ?_⟩
      by_cases e : j = i
      · subst e; rw [upd_same]; exact q2
      · rw [upd_other _ _ _ _ e]
        exact hΦ j _ _ _ (h3 j hj (by simpa [e] using h)) h2 q3 q4
    unfold wpList at hs ⊢
    split at hs
    · rename_i hw
      rw [if_pos hw]
      rcases hs with hs | ⟨hs1, a', w', hs⟩
      · exact .inl (oper_monoQ (fun _ _ _ h => h) (fun _ _ h => h) (Oper.wp_mono (fun a' w' h => by unfold wpList at h ⊢; exact fin _ _ h) hs))
      · exact hs.elim
    · rename_i hw
      rw [if_neg hw]
      unfold wpList at hs ⊢
      exact fin _ _ hs
  · rintro a W ⟨u, rfl, h2, h3⟩
    exact hend u W h2 (fun i hi => h3 i hi rfl)
/-- each operation ahead of the last one is waited for by it -/
def lastB (ops : Array Oper) (n : Nat) : Bool :=
  decide (ops.size = n + 1) && (match ops[n]? with
    | some o => (List.range n).all fun i => o.after.any fun e => Region.binds .any e && e.on == i
    | none => false)
theorem lastB_spec {ops : Array Oper} {n : Nat} (h : lastB ops n = true) : ops.size = n + 1 ∧ ∀ o, ops[n]? = some o → ∀ i, i < n → ∃ e ∈ o.after, Region.binds .any e = true ∧ e.on = i := by
  simp only [lastB, Bool.and_eq_true, decide_eq_true_eq] at h
  refine ⟨h.1, fun o ho i hi => ?_⟩
  have h2 := h.2
  rw [ho] at h2
  have := List.all_eq_true.1 h2 i (List.mem_range.2 hi)
  obtain ⟨e, he, hb⟩ := Array.any_iff_exists.1 this |> fun ⟨j, hj, hb⟩ => (⟨_, Array.getElem_mem hb.2.1, hb.2.2⟩ : ∃ e ∈ o.after, (Region.binds .any e && e.on == i) = true)
  simp only [Bool.and_eq_true, beq_iff_eq] at hb
  exact ⟨e, he, hb⟩
/-- THE LAW, where the last operation may write. -/
theorem region_free_last {id : Nat} {Q' : Exit → Act → World → Prop} {a : Act} {w : World} {l : List Oper} (n : Nat) (hm : P.follows .mixedOrders = true) (hl : lexical l.toArray = true) (hn : lastB l.toArray n = true)
    (F : (Nat → Value) → Array Value) (D : List Deferred) (u0 : Nat → Value) (ha : a = ⟨F u0, D⟩) (C : World → Prop) (hC : C w.drew) (Φ : Nat → Value → World → Prop)
    (hΦ : ∀ i v W W', Φ i v W → C W → C W' → Below W.heap.size W W' → Φ i v W')
    (hstep : ∀ (u : Nat → Value) (W : World) (i : Nat) (o : Oper), i < n → l[i]? = some o → C W → (∀ e ∈ o.after, Region.binds .any e = true → Φ e.on (u e.on) W) →
      wpList P l.toArray (Exit.then (Came F D C (Φ i) u i W) (fun _ _ _ => False)) [o] ⟨F u, D⟩ W)
    (hlast : ∀ (u : Nat → Value) (W : World) (o : Oper), l[n]? = some o → C W → (∀ i, i < n → Φ i (u i) W) → wpList P l.toArray (Exit.then (fun a' W' => Q' .normal a' W') (fun _ _ _ => False)) [o] ⟨F u, D⟩ W) : (Code.region id l.toArray true).wp P Q' a w := by
  obtain ⟨hsz, hwait⟩ := lastB_spec hn
  have hsz' : l.length = n + 1 := by simpa using hsz
  refine region_inv hm hl (fun L a W => (L n = false ∧ ∃ u, a = ⟨F u, D⟩ ∧ C W ∧ ∀ i, i < n → L i = true → Φ i (u i) W) ∨ ((∀ i, i ≤ n → L i = true) ∧ Q' .normal a W)) (.inl ⟨rfl, u0, ha, hC, fun i _ h => by cases h⟩) ?_ ?_ ?_
  · rintro L L' a W hE (⟨h0, u, h1, h2, h3⟩ | ⟨h1, h2⟩)
    · exact .inl ⟨by rw [← hE n (by omega)]; exact h0, u, h1, h2, fun i hi h => h3 i hi (by rw [hE i (by omega)]; exact h)⟩
    · exact .inr ⟨fun i hi => by rw [← hE i (by omega)]; exact h1 i hi, h2⟩
  · rintro L a W i o hI ho hL hdep
    have hlex := (lexical_spec hl (show l.toArray[i]? = some o by simpa using ho)).2
    have hil : i < l.length := (List.getElem?_eq_some_iff.1 ho).1
    rcases hI with ⟨h0, u, rfl, h2, h3⟩ | ⟨h1, _⟩
    · by_cases hi : i = n
      · subst hi
        have hall : ∀ j, j < i → L j = true := fun j hj => by
          obtain ⟨e, he, hb, rfl⟩ := hwait o (by simpa using ho) j hj
          exact hdep e he hb
        have hs := hlast u W o ho h2 (fun j hj => h3 j hj (hall j hj))
        have fin : ∀ a' W', Q' .normal a' W' → (((i == i || L i) = false ∧ ∃ u, a' = ⟨F u, D⟩ ∧ C W' ∧ ∀ j, j < i → (j == i || L j) = true → Φ j (u j) W') ∨ ((∀ j, j ≤ i → (j == i || L j) = true) ∧ Q' .normal a' W')) := fun a' W' h => .inr ⟨fun j hj => by
          by_cases e : j = i
          · simp [e]
          · simp [hall j (by omega)], h⟩
        unfold wpList at hs ⊢
        split at hs
        · rename_i hw
          rw [if_pos hw]
          rcases hs with hs | ⟨hs1, a', w', hs⟩
          · exact .inl (oper_monoQ (fun _ _ _ h => h) (fun _ _ h => h) (Oper.wp_mono (fun a' w' h => by unfold wpList at h ⊢; exact fin _ _ h) hs))
          · exact hs.elim
        · rename_i hw
          rw [if_neg hw]
          unfold wpList at hs ⊢
          exact fin _ _ hs
      · have hin : i < n := by omega
        have hs := hstep u W i o hin ho h2 (fun e he hb => h3 e.on (by have := hlex e he hb; omega) (hdep e he hb))
        have fin : ∀ a' W', Came F D C (Φ i) u i W a' W' → (((n == i || L n) = false ∧ ∃ u', a' = ⟨F u', D⟩ ∧ C W' ∧ ∀ j, j < n → (j == i || L j) = true → Φ j (u' j) W') ∨ ((∀ j, j ≤ n → (j == i || L j) = true) ∧ Q' .normal a' W')) := by
          rintro a' W' ⟨v, q1, q2, q3, q4⟩
          refine .inl ⟨by simp [h0]; omega, upd u i v, q1, q3, fun j hj h => ?_⟩
          by_cases e : j = i
          · subst e; rw [upd_same]; exact q2
          · rw [upd_other _ _ _ _ e]
            exact hΦ j _ _ _ (h3 j hj (by simpa [e] using h)) h2 q3 q4
        unfold wpList at hs ⊢
        split at hs
        · rename_i hw
          rw [if_pos hw]
          rcases hs with hs | ⟨hs1, a', w', hs⟩
          · exact .inl (oper_monoQ (fun _ _ _ h => h) (fun _ _ h => h) (Oper.wp_mono (fun a' w' h => by unfold wpList at h ⊢; exact fin _ _ h) hs))
          · exact hs.elim
        · rename_i hw
          rw [if_neg hw]
          unfold wpList at hs ⊢
          exact fin _ _ hs
    · rw [h1 i (by omega)] at hL; cases hL
  · rintro a W (⟨h0, _⟩ | ⟨_, h⟩)
    · cases h0
    · exact h
end
end Go.Proofs.Ytloogjdojojehaa
namespace Go.Proofs.Ytloogjdojojehaa
open Go.RowKit
set_option linter.unusedVariables false

theorem all_range_ints : ∀ (xs ys : List Int), xs.length = ys.length → ((List.range xs.length).all fun i => xs.getD i 0 == ys.getD i 0) = (xs == ys) := by
  intro xs ys h
  rw [Bool.eq_iff_iff, List.all_eq_true, beq_iff_eq]
  constructor
  · intro hall
    apply List.ext_getElem h
    intro i h1 h2
    have := hall i (List.mem_range.2 h1)
    simpa [h1, h2] using this
  · rintro rfl i _
    simp
theorem run_eql_ints {P : Program} (w : World) (t e : TypeId) (n : Nat) (k : IntKind) (ht : P.underlying t = some (.array n e)) (he : P.underlying e = some (.int k)) (hsz : ∀ w, (sizeOf e).run P w = .ok 1 w)
    (xs ys : List Int) (hx : xs.length = n) (hy : ys.length = n) :
    (binOp .eql t (.agg (ints k xs).toArray) (.agg (ints k ys).toArray)).run P w = .ok (.bool (xs == ys)) w := by
  have main : (Op.equalIn (9998 + 2) t (.agg (ints k xs).toArray) (.agg (ints k ys).toArray)).run P w = .ok (xs == ys) w := by
    rw [← all_range_ints xs ys (hx.trans hy.symm), hx, List.range_eq_range', Op.equalIn]
    simp only [Sem.run_bind, run_underlying ht, Result.andThen_ok, hsz, Std.Legacy.Range.forIn_eq_forIn_range', Std.Legacy.Range.size, Nat.sub_zero, Nat.add_sub_cancel, Nat.div_one]
    have hl : ∀ i ∈ List.range' 0 n 1, i < n := fun i hi => by simpa using (List.mem_range'_1.1 hi).2
    generalize List.range' 0 n 1 = l at hl ⊢
    induction l with
    | nil => simp
    | cons i l ih =>
      have hi : i < n := hl i (by simp)
      have px : (part e (ints k xs).toArray (i * 1)).run P w = .ok (.int k (xs.getD i 0)) w := by
        simp [part, isAgg, run_underlying he, ints_get k xs i (by omega)]
      have py : (part e (ints k ys).toArray (i * 1)).run P w = .ok (.int k (ys.getD i 0)) w := by
        simp [part, isAgg, run_underlying he, ints_get k ys i (by omega)]
      have pe : (Op.equalIn (9998 + 1) e (.int k (xs.getD i 0)) (.int k (ys.getD i 0))).run P w = .ok (xs.getD i 0 == ys.getD i 0) w := by
        rw [run_equalIn_int w 9998 e k k _ _ he]
      simp only [List.forIn_cons, Sem.run_bind, px, py, pe, Result.andThen_ok, List.all_cons]
      cases hb : (xs.getD i 0 == ys.getD i 0)
      · simp
      · simp only [Bool.not_true, Bool.false_eq_true, if_false, Sem.run_pure, Result.andThen_ok, Bool.true_and]
        exact ih fun j hj => hl j (by simp [hj])
  rw [run_eql_struct, main]
  rfl
end Go.Proofs.Ytloogjdojojehaa
namespace Go.Proofs.Ytloogjdojojehaa
open Go.RowKit
set_option linter.unusedVariables false

theorem lit16 : (ints .u8 (nn (zerN 16))).toArray = #[(.int .u8 0 : Value), (.int .u8 0 : Value), (.int .u8 0 : Value), (.int .u8 0 : Value), (.int .u8 0 : Value), (.int .u8 0 : Value), (.int .u8 0 : Value), (.int .u8 0 : Value), (.int .u8 0 : Value), (.int .u8 0 : Value), (.int .u8 0 : Value), (.int .u8 0 : Value), (.int .u8 0 : Value), (.int .u8 0 : Value), (.int .u8 0 : Value), (.int .u8 0 : Value)] := rfl
theorem lit32 : (ints .u8 (nn (zerN 32))).toArray = #[(.int .u8 0 : Value), (.int .u8 0 : Value), (.int .u8 0 : Value), (.int .u8 0 : Value), (.int .u8 0 : Value), (.int .u8 0 : Value), (.int .u8 0 : Value), (.int .u8 0 : Value), (.int .u8 0 : Value), (.int .u8 0 : Value), (.int .u8 0 : Value), (.int .u8 0 : Value), (.int .u8 0 : Value), (.int .u8 0 : Value), (.int .u8 0 : Value), (.int .u8 0 : Value), (.int .u8 0 : Value), (.int .u8 0 : Value), (.int .u8 0 : Value), (.int .u8 0 : Value), (.int .u8 0 : Value), (.int .u8 0 : Value), (.int .u8 0 : Value), (.int .u8 0 : Value), (.int .u8 0 : Value), (.int .u8 0 : Value), (.int .u8 0 : Value), (.int .u8 0 : Value), (.int .u8 0 : Value), (.int .u8 0 : Value), (.int .u8 0 : Value), (.int .u8 0 : Value)] := rfl
theorem Blk.cast {w : World} {b : Nat} {t : TypeId} {vs vs' : List Value} (h : Blk w b t vs) (e : vs = vs') : Blk w b t vs' := e ▸ h
theorem Blk.part {w : World} {b : Nat} {t : TypeId} {x y z : List Value} (h : Blk w b t (x ++ (y ++ z))) (o : Nat) (ho : o = x.length) : w.rangeAt b o y := by
  subst ho
  exact Blk.range (x := x) (y := y) (z := z) (by rw [List.append_assoc]; exact h)
theorem Blk.one {w : World} {b : Nat} {t : TypeId} {x z : List Value} {v : Value} (h : Blk w b t (x ++ (v :: z))) (o : Nat) (ho : o = x.length) : w.cell? ⟨b, o, none⟩ = some v := by
  subst ho
  rw [h.cell]
  simp
theorem take_mid (x y z : List Value) : (x ++ (y ++ z)).take x.length = x := by simp
theorem drop_mid (x y z : List Value) : (x ++ (y ++ z)).drop (x.length + y.length) = z := by
  rw [← List.append_assoc, List.drop_append_of_le_length (by simp)]
  simp
/-- the cells of a part, written one by one -/
theorem setCells_part {b : Nat} {t : TypeId} : ∀ (y y' x z : List Value) (w : World), Blk w b t (x ++ (y ++ z)) → y.length = y'.length → Blk (w.setCells b x.length y') b t (x ++ (y' ++ z))
  | [], [], x, z, w, h, _ => h
  | [], _ :: _, _, _, _, _, hl => by cases hl
  | _ :: _, [], _, _, _, _, hl => by cases hl
  | a :: y, a' :: y', x, z, w, h, hl => by
    have h1 := h.set x.length a'
    have e : (x ++ (a :: y ++ z)).set x.length a' = (x ++ [a']) ++ (y ++ z) := by simp
    rw [e] at h1
    have h2 := setCells_part y y' (x ++ [a']) z _ h1 (by simpa using hl)
    rw [List.length_append] at h2
    rw [show x ++ (a' :: y' ++ z) = (x ++ [a']) ++ (y' ++ z) by simp]
    exact h2
theorem setCells_otherB {b b' : Nat} {t : TypeId} {cs : List Value} (hb : b' ≠ b) : ∀ (y : List Value) (o : Nat) (w : World), Blk w b' t cs → Blk (w.setCells b o y) b' t cs
  | [], _, _, h => h
  | v :: y, o, w, h => setCells_otherB hb y (o + 1) _ (h.other (a := ⟨b, o, none⟩) (fun e => hb e.symm) v)
section
variable {P : Program} {C : World → Prop} {zs : Array Oper} {Q : Act → Prop} {op : Oper} {rest : List Oper} {a : Act} {w : World}

theorem run_bytes_mid (src dst e : TypeId) (b o n cap : Nat) (l : List Int) (hs : P.underlying src = some (.slice e)) (he : P.underlying e = some (.int .u8)) (hd : P.underlying dst = some .string)
    (hc : w.rangeAt b o (ints .u8 l)) (hn : n = l.length) :
    (convert src dst (.slice (some ⟨b, o, none⟩) n cap)).run P w = .ok (.string (bs l)) w := by
  subst hn
  rw [run_convert_bytes_string w src dst e _ _ _ hs he hd, ← bs_fold]
  refine run_bytesToString w ⟨b, o, none⟩ l.length cap l ?_
  have := run_loadCells_list (P := P) w ⟨b, o, none⟩ (ints .u8 l) (fun j v hv => by rw [Addr.add_mid]; exact hc j v hv)
  simpa [ints] using this
theorem run_loadVar_one (w : World) (p : Addr) (ty : TypeId) (v : Value) (d : TypeDesc) (hc : w.cell? p = some v) (hu : P.underlying ty = some d) (hd : d.isRow = false) :
    (loadVar ty p).run P w = .ok v w := by
  have hagg : (isAgg ty).run P w = .ok false w := by
    unfold isAgg
    rw [Sem.run_bind, run_underlying hu w]
    cases d <;> simp_all
  simp [loadVar, Sem.run_bind, hagg, hc]
/-- one cell is read, in a class of worlds -/
theorem wpQuiet_load_one (hgd : Region.wanted op (yielded zs a.tmps) = true) (ty : TypeId) (x : Operand) (ho : op.op = .load ty x)
    (p : Addr) (hx : a.eval x = .pointer (some p)) (v : Value) {d : TypeDesc} (hc : ∀ w', C w' → w'.cell? p = some v)
    (hu : P.underlying ty = some d) (hd : d.isRow = false)
    (h : wpQuiet P zs C Q rest (a.put op.dst v)) : wpQuiet P zs C Q (op :: rest) a := by
  unfold wpQuiet
  rw [if_pos hgd]
  refine ⟨v, fun w' hw' => ?_, h⟩
  unfold Oper.quietAt execOp
  simp only [ho, hx, Instr.loadAt, Instr.sureAddr, Sem.run_bind, Sem.run_pure, Result.andThen_ok, run_loadVar_one w' p ty v d (hc w' hw') hu hd, Oper.quietUpon]
  trivial
/-- a part's bytes are told as a text, in a class of worlds -/
theorem wpQuiet_bytes_mid (hgd : Region.wanted op (yielded zs a.tmps) = true) (src dst e : TypeId) (x : Operand) (ho : op.op = .convert src dst x) (b o n cap : Nat) (l : List Int)
    (hx : a.eval x = .slice (some ⟨b, o, none⟩) n cap) (hs : P.underlying src = some (.slice e)) (he : P.underlying e = some (.int .u8)) (hd : P.underlying dst = some .string)
    (hc : ∀ w', C w' → w'.rangeAt b o (ints .u8 l)) (hn : n = l.length) (h : wpQuiet P zs C Q rest (a.put op.dst (.string (bs l)))) : wpQuiet P zs C Q (op :: rest) a := by
  unfold wpQuiet
  rw [if_pos hgd]
  refine ⟨.string (bs l), fun w' hw' => ?_, h⟩
  unfold Oper.quietAt execOp
  simp only [ho, hx, Sem.run_bind, run_bytes_mid (P := P) (w := w') src dst e b o n cap l hs he hd (hc w' hw') hn, Result.andThen_ok, Sem.run_pure, Oper.quietUpon]
  trivial
end
section
variable {P : Program} {ops : Array Oper} {rest : List Oper} {o : Oper} {a : Act} {w : World} {Q : Exit → Act → World → Prop}
theorem run_copy_string_cut {P : Program} (w : World) (dT sT ty elem : TypeId) (g o dLen dCap : Nat) (s : ByteArray) (cur : Array Value) (t : TypeId)
    (hu : P.underlying dT = some (.slice elem)) (hs : (P.info? elem).map (·.size) = some 1) (hg : w.heap[g]? = some (.cells cur t (0, 0))) (hle : dLen ≤ s.size) (hfit : o + dLen ≤ cur.size) :
    (Builtin.copy_ #[dT, sT] ty #[.slice (some ⟨g, o, none⟩) dLen dCap, .string s]).run P w =
      .ok (goInt dLen) (w.setRow g (cur.toList.take o ++ ints .u8 ((is s).take dLen) ++ cur.toList.drop (o + dLen)).toArray) := by
  have e1 : List.take dLen (List.map (fun b : UInt8 => Value.int IntKind.u8 (b.toNat : Int)) s.data.toList) = ints .u8 ((is s).take dLen) := by
    simp [ints, is, List.map_take, Function.comp_def]
  have hlen : (ints .u8 ((is s).take dLen)).length = dLen := by rw [ints_length, List.length_take, is_length]; omega
  have hst := run_storeCells_at P g o t (ints .u8 ((is s).take dLen)) 0 cur w hg (by rw [hlen]; simpa using hfit) (fun v hv => by
    simp only [ints, List.mem_map] at hv
    obtain ⟨n, _, rfl⟩ := hv
    rfl)
  have hmin : Nat.min s.size dLen = dLen := Nat.min_eq_right hle
  rw [hlen] at hst
  simp only [Nat.add_zero] at hst
  cases hq : P.info? elem with
  | none => simp [hq] at hs
  | some i =>
    simp [Builtin.copy_, run_underlying hu, Builtin.lenOf, Builtin.firstCells, sizeOf, typeInfo, hq, hmin]
    rw [e1, hst]
    simp [Result.andThen]
/-- the first bytes of a text are copied over a part of a block -/
theorem wpList_copy_part (hgd : o.guard = none) (d s : Operand) (dT sT elem : TypeId) (ho : o.op = .call { callee := .builtin .copy, args := #[d, s], argTypes := #[dT, sT] })
    (g off dLen dCap : Nat) (hd : a.eval d = .slice (some ⟨g, off, none⟩) dLen dCap) (t : ByteArray) (hx : a.eval s = .string t) {ty : TypeId} {old : List Value} (hg : Blk w g ty old) (new : List Value) (x y z : List Value)
    (hold : old = x ++ (y ++ z)) (hnew : new = x ++ (ints .u8 ((is t).take dLen) ++ z))
    (hu : P.underlying dT = some (.slice elem)) (hs : (P.info? elem).map (·.size) = some 1) (hle : dLen ≤ t.size) (hxl : off = x.length) (hyl : dLen = y.length)
    (h : wpList P ops Q rest (a.put o.dst (goInt dLen)) (w.setRow g new.toArray)) : wpList P ops Q (o :: rest) a w :=
  wpList_plain hgd fun _ hK => by
    subst hold hnew
    have hr := run_copy_string_cut (P := P) w dT sT o.type elem g off dLen dCap t (x ++ (y ++ z)).toArray ty hu hs hg hle (by subst hxl hyl; simp)
    have e : ((x ++ (y ++ z)).toArray.toList.take off ++ ints .u8 ((is t).take dLen) ++ (x ++ (y ++ z)).toArray.toList.drop (off + dLen)).toArray = (x ++ (ints .u8 ((is t).take dLen) ++ z)).toArray := by
      subst hxl hyl
      rw [List.toList_toArray, take_mid, drop_mid, List.append_assoc]
    rw [e] at hr
    unfold Oper.wp
    simp [execOp, ho, resolve, invoke, builtin, hd, hx, hr, Result.andThen]
    exact hK _ _ h
/-- a new variable, where so many blocks are -/
theorem wpList_alloc_n (hgd : o.guard = none) (t : TypeId) (ho : o.op = .alloc t) (n : Nat) (hn : w.heap.size = n) (cells : Array Value)
    (hrun : (Instr.alloc t true (.tuple #[])).run P w = .ok (.pointer (some ⟨w.heap.size, 0, none⟩)) (w.alloc (.cells cells t)))
    (h : wpList P ops Q rest (a.put o.dst (.pointer (some ⟨n, 0, none⟩))) (w.alloc (.cells cells t))) : wpList P ops Q (o :: rest) a w :=
  wpList_plain hgd fun _ hK => by
    subst hn
    unfold Oper.wp execOp
    simp only [ho, Sem.run_bind, hrun, Result.andThen_ok]
    exact hK _ _ h
/-- a part of a block is written -/
theorem wpList_store_part (hgd : o.guard = none) (ty : TypeId) (p v : Operand) (ho : o.op = .store ty p v)
    (g off : Nat) (hx : a.eval p = .pointer (some ⟨g, off, none⟩)) (cs : List Value) (hy : a.eval v = .agg cs.toArray) {t : TypeId} (x y z : List Value) (hg : Blk w g t (x ++ (y ++ z)))
    (hxl : off = x.length) (hyl : y.length = cs.length) (hi : (P.info? ty).map (·.size) = some cs.length) (h1 : cs.toArray.all (·.oneCell') = true)
    (h : ∀ w', Blk w' g t (x ++ (cs ++ z)) → Below g w w' → w' = w.setCells g off cs → wpList P ops Q rest (a.put o.dst undef) w') : wpList P ops Q (o :: rest) a w := by
  have hth : w.there g off cs.toArray.size := fun j hj => by
    refine ⟨?_, hg.free _⟩
    rw [hg.cell]
    subst hxl
    have : x.length + j < (x ++ (y ++ z)).length := by simp at hj ⊢; omega
    rw [List.getElem?_eq_getElem this]
    rfl
  refine wpList_store_mid hgd ty p v ho g off cs.toArray hx hy hth (by simpa using hi) h1 ?_
  refine h _ ?_ (below_setCells (Nat.le_refl _) _ _ _ (Below.refl _ _)) (by simp)
  subst hxl
  exact setCells_part y cs x z w hg hyl
end
section
variable {P : Program}
theorem results_cells2 {fn : Func} {p q : Tmp} {ty uy : TypeId} (h : fn.results = #[.cell p ty, .cell q uy]) (tmps : Array Value) (w : World) (g g' : Nat)
    (hp : tmps.getD p undef = .pointer (some ⟨g, 0, none⟩)) (hq : tmps.getD q undef = .pointer (some ⟨g', 0, none⟩)) {t t' : TypeId} {cs cs' : List Value} {d d' : TypeDesc} (hg : Blk w g t cs) (hg' : Blk w g' t' cs')
    (hu : P.underlying ty = some d) (hd : (match d with | .struct _ | .array _ _ => true | _ => false) = true) (hi : (P.info? ty).map (·.size) = some cs.length)
    (hu' : P.underlying uy = some d') (hd' : (match d' with | .struct _ | .array _ _ => true | _ => false) = true) (hi' : (P.info? uy).map (·.size) = some cs'.length) :
    (results fn tmps).run P w = .ok (.tuple #[.agg cs.toArray, .agg cs'.toArray]) w := by
  have hp' : tmps[p]?.getD undef = .pointer (some ⟨g, 0, none⟩) := by simpa using hp
  have hq' : tmps[q]?.getD undef = .pointer (some ⟨g', 0, none⟩) := by simpa using hq
  simp [results, h, hp', hq', asAddr, run_loadVar_row w g t ty cs.toArray (0, 0) d hg hu hd (by simpa using hi), run_loadVar_row w g' t' uy cs'.toArray (0, 0) d' hg' hu' hd' (by simpa using hi')]
theorem results_cell_tmp {fn : Func} {p q : Tmp} {ty : TypeId} (h : fn.results = #[.cell p ty, .tmp q]) (tmps : Array Value) (w : World) (g : Nat)
    (hp : tmps.getD p undef = .pointer (some ⟨g, 0, none⟩)) (v : Value) (hq : tmps.getD q undef = v) {t : TypeId} {cs : List Value} {d : TypeDesc} (hg : Blk w g t cs)
    (hu : P.underlying ty = some d) (hd : (match d with | .struct _ | .array _ _ => true | _ => false) = true) (hi : (P.info? ty).map (·.size) = some cs.length) :
    (results fn tmps).run P w = .ok (.tuple #[.agg cs.toArray, v]) w := by
  have hp' : tmps[p]?.getD undef = .pointer (some ⟨g, 0, none⟩) := by simpa using hp
  have hq' : tmps[q]?.getD undef = v := by simpa using hq
  simp [results, h, hp', hq', asAddr, run_loadVar_row w g t ty cs.toArray (0, 0) d hg hu hd (by simpa using hi)]
/-- a block made where so many lie -/
theorem Blk.newAt (w : World) (n : Nat) (hn : w.heap.size = n) (t : TypeId) {c : Array Value} (vs : List Value) (hc : c = vs.toArray) : Blk (w.alloc (.cells c t)) n t vs := by
  subst hn; exact Blk.new' w t vs hc
end
section
variable {P : Program} {ops : Array Oper} {rest : List Oper} {o : Oper} {a : Act} {w : World} {Q : Exit → Act → World → Prop}
/-- an array literal -/
theorem wpList_build_at (hgd : o.guard = none) (t : TypeId) (parts : Array (Nat × Operand)) (ho : o.op = .build t parts) (v : Value) (hrun : (Instr.build t (parts.map fun (i, x) => (i, a.eval x))).run P w = .ok v w)
    (h : wpList P ops Q rest (a.put o.dst v) w) : wpList P ops Q (o :: rest) a w :=
  wpList_plain hgd fun _ hK => by
    unfold Oper.wp execOp
    simp only [ho, Sem.run_bind, hrun, Result.andThen_ok]
    exact hK _ _ h
end
section
variable {P : Program}
theorem results_cell_tmp2 {fn : Func} {p q r : Tmp} {ty : TypeId} (h : fn.results = #[.cell p ty, .tmp q, .tmp r]) (tmps : Array Value) (w : World) (g : Nat)
    (hp : tmps.getD p undef = .pointer (some ⟨g, 0, none⟩)) (v u : Value) (hq : tmps.getD q undef = v) (hr : tmps.getD r undef = u) {t : TypeId} {cs : List Value} {d : TypeDesc} (hg : Blk w g t cs)
    (hu : P.underlying ty = some d) (hd : (match d with | .struct _ | .array _ _ => true | _ => false) = true) (hi : (P.info? ty).map (·.size) = some cs.length) :
    (results fn tmps).run P w = .ok (.tuple #[.agg cs.toArray, v, u]) w := by
  have hp' : tmps[p]?.getD undef = .pointer (some ⟨g, 0, none⟩) := by simpa using hp
  have hq' : tmps[q]?.getD undef = v := by simpa using hq
  have hr' : tmps[r]?.getD undef = u := by simpa using hr
  simp [results, h, hp', hq', hr', asAddr, run_loadVar_row w g t ty cs.toArray (0, 0) d hg hu hd (by simpa using hi)]
end
end Go.Proofs.Ytloogjdojojehaa
namespace Go.Proofs.Ytloogjdojojehaa
open Go.RowKit
set_option linter.unusedVariables false

section
variable {P : Program}
/-- what operations wait for -/
def needs (ops : Array Oper) (L : List Nat) : List Nat := L.flatMap fun i => match ops[i]? with | some o => (o.after.toList.filter fun e => Region.binds .any e).map (·.on) | none => []
def needK (ops : Array Oper) : Nat → List Nat → List Nat | 0, L => L | k + 1, L => L ++ needK ops k (needs ops L)
/-- operation n waits for all ahead of it, by way of others; it is the last but one, and the last one waits for it -/
def waitsAll (ops : Array Oper) (n : Nat) : Bool := decide (ops.size = n + 2) && ((List.range n).all fun i => (needK ops n (needs ops [n])).contains i) && (needs ops [n + 1]).contains n
/-- what is listed has all that it waits for listed -/
def Closed (l : List Oper) (L : Nat → Bool) : Prop := ∀ j o, l[j]? = some o → L j = true → ∀ e ∈ o.after, Region.binds .any e = true → L e.on = true
theorem needs_mem {ops : Array Oper} {X : List Nat} {x : Nat} (h : x ∈ needs ops X) : ∃ i ∈ X, ∃ o, ops[i]? = some o ∧ ∃ e ∈ o.after, Region.binds .any e = true ∧ e.on = x := by
  obtain ⟨i, hi, hx⟩ := List.mem_flatMap.1 h
  cases ho : ops[i]? with
  | none => rw [ho] at hx; cases hx
  | some o =>
    rw [ho] at hx
    obtain ⟨e, he, rfl⟩ := List.mem_map.1 hx
    obtain ⟨h1, h2⟩ := List.mem_filter.1 he
    exact ⟨i, hi, o, ho, e, Array.mem_toList_iff.1 h1, h2, rfl⟩
theorem needK_listed {l : List Oper} {L : Nat → Bool} (hc : Closed l L) : ∀ (k : Nat) (X : List Nat), (∀ x ∈ X, L x = true) → ∀ x ∈ needK l.toArray k X, L x = true
  | 0, X, h, x, hx => h x hx
  | k + 1, X, h, x, hx => by
    rcases List.mem_append.1 hx with hx | hx
    · exact h x hx
    · refine needK_listed hc k _ (fun y hy => ?_) x hx
      obtain ⟨i, hi, o, ho, e, he, hb, rfl⟩ := needs_mem hy
      exact hc i o (by simpa using ho) (h i hi) e he hb
/-- THE LAW: heads in whatever order, each by its spec; then two operations that write. -/
theorem region_free_two {id : Nat} {Q' : Exit → Act → World → Prop} {a : Act} {w : World} {l : List Oper} (n : Nat) (hm : P.follows .mixedOrders = true) (hl : lexical l.toArray = true) (hn : waitsAll l.toArray n = true)
    (F : (Nat → Value) → Array Value) (D : List Deferred) (u0 : Nat → Value) (ha : a = ⟨F u0, D⟩) (C : World → Prop) (hC : C w.drew) (Φ : Nat → Value → World → Prop)
    (hΦ : ∀ i v W W', Φ i v W → C W → C W' → Below W.heap.size W W' → Φ i v W')
    (hstep : ∀ (u : Nat → Value) (W : World) (i : Nat) (o : Oper), i < n → l[i]? = some o → C W → (∀ e ∈ o.after, Region.binds .any e = true → Φ e.on (u e.on) W) →
      wpList P l.toArray (Exit.then (Came F D C (Φ i) u i W) (fun _ _ _ => False)) [o] ⟨F u, D⟩ W)
    (hlast : ∀ (u : Nat → Value) (W : World) (o o' : Oper), l[n]? = some o → l[n + 1]? = some o' → C W → (∀ i, i < n → Φ i (u i) W) → wpList P l.toArray (Exit.then (fun a' W' => Q' .normal a' W') (fun _ _ _ => False)) [o, o'] ⟨F u, D⟩ W) : (Code.region id l.toArray true).wp P Q' a w := by
  simp only [waitsAll, Bool.and_eq_true, decide_eq_true_eq] at hn
  obtain ⟨⟨hsz, hall⟩, hnext⟩ := hn
  have hsz' : l.length = n + 2 := by simpa using hsz
  have hall' : ∀ L : Nat → Bool, Closed l L → (∀ o, l[n]? = some o → ∀ e ∈ o.after, Region.binds .any e = true → L e.on = true) → ∀ i, i < n → L i = true := fun L hc h i hi => by
    have := List.all_eq_true.1 hall i (List.mem_range.2 hi)
    refine needK_listed hc n _ (fun y hy => ?_) i (by simpa using this)
    obtain ⟨j, hj, o, ho, e, he, hb, rfl⟩ := needs_mem hy
    rw [List.mem_singleton.1 hj] at ho
    exact h o (by simpa using ho) e he hb
  obtain ⟨o2, ho2⟩ : ∃ o2, l[n + 1]? = some o2 := ⟨_, List.getElem?_eq_getElem (by omega)⟩
  have hwait2 : ∃ e ∈ o2.after, Region.binds .any e = true ∧ e.on = n := by
    have hm : n ∈ needs l.toArray [n + 1] := by simpa using hnext
    obtain ⟨j, hj, o, ho, e, he, hb, hx⟩ := needs_mem hm
    rw [List.mem_singleton.1 hj] at ho
    have : o = o2 := by
      have h1 : l[n + 1]? = some o := by simpa using ho
      rw [ho2] at h1
      exact (Option.some.inj h1).symm
    subst this
    exact ⟨e, he, hb, hx⟩
  refine region_inv hm hl (fun L a W => Closed l L ∧ ((L n = false ∧ L (n + 1) = false ∧ ∃ u, a = ⟨F u, D⟩ ∧ C W ∧ ∀ i, i < n → L i = true → Φ i (u i) W) ∨ ((∀ i, i ≤ n → L i = true) ∧ L (n + 1) = false ∧ wpList P l.toArray (Exit.then (fun a' W' => Q' .normal a' W') (fun _ _ _ => False)) [o2] a W) ∨ ((∀ i, i ≤ n + 1 → L i = true) ∧ Q' .normal a W)))
    ⟨(fun j o _ h => by cases h), .inl ⟨rfl, rfl, u0, ha, hC, fun i _ h => by cases h⟩⟩ ?_ ?_ ?_
  · rintro L L' a W hE ⟨hc, hI⟩
    refine ⟨fun j o ho hj e he hb => ?_, ?_⟩
    · have hjl : j < l.length := (List.getElem?_eq_some_iff.1 ho).1
      have hlex := (lexical_spec hl (show l.toArray[j]? = some o by simpa using ho)).2 e he hb
      rw [← hE e.on (by omega)]
      exact hc j o ho (by rw [hE j hjl]; exact hj) e he hb
    · rcases hI with ⟨h0, h0', u, h1, h2, h3⟩ | ⟨h1, h1', h2⟩ | ⟨h1, h2⟩
      · exact .inl ⟨by rw [← hE n (by omega)]; exact h0, by rw [← hE (n + 1) (by omega)]; exact h0', u, h1, h2, fun i hi h => h3 i hi (by rw [hE i (by omega)]; exact h)⟩
      · exact .inr (.inl ⟨fun i hi => by rw [← hE i (by omega)]; exact h1 i hi, by rw [← hE (n + 1) (by omega)]; exact h1', h2⟩)
      · exact .inr (.inr ⟨fun i hi => by rw [← hE i (by omega)]; exact h1 i hi, h2⟩)
  · rintro L a W i o ⟨hc, hI⟩ ho hL hdep
    have hlex := (lexical_spec hl (show l.toArray[i]? = some o by simpa using ho)).2
    have hil : i < l.length := (List.getElem?_eq_some_iff.1 ho).1
    have hc' : Closed l (fun j => j == i || L j) := fun j o' ho' hj e he hb => by
      by_cases hji : j = i
      · subst hji
        have : o' = o := by rw [ho] at ho'; exact (Option.some.inj ho').symm
        subst this
        simp [hdep e he hb]
      · have := hc j o' ho' (by simpa [hji] using hj) e he hb
        simp [this]
    -- one operation's step
    have key : ∀ (K K' : Act → World → Prop) (rest : List Oper), wpList P l.toArray (Exit.then (fun a' W' => Q' .normal a' W') (fun _ _ _ => False)) (o :: rest) a W →
        (∀ a' W', wpList P l.toArray (Exit.then (fun a' W' => Q' .normal a' W') (fun _ _ _ => False)) rest a' W' → K' a' W') → wpList P l.toArray (Exit.then K' (fun _ _ _ => False)) [o] a W := by
      intro K K' rest hs fin
      unfold wpList at hs ⊢
      split at hs
      · rename_i hw
        rw [if_pos hw]
        rcases hs with hs | ⟨hs1, a', w', hs⟩
        · exact .inl (oper_monoQ (fun _ _ _ h => h) (fun _ _ h => h) (Oper.wp_mono (fun a' w' h => by unfold wpList; exact fin _ _ h) hs))
        · exact hs.elim
      · rename_i hw
        rw [if_neg hw]
        unfold wpList
        exact fin _ _ hs
    rcases hI with ⟨h0, h0', u, rfl, h2, h3⟩ | ⟨h1, h1', h2⟩ | ⟨h1, _⟩
    · by_cases hi : i = n
      · subst hi
        have hal := hall' L hc (fun o' ho' e he hb => by
          have : o' = o := by rw [ho] at ho'; exact (Option.some.inj ho').symm
          subst this
          exact hdep e he hb)
        refine key (fun _ _ => True) _ [o2] (hlast u W o o2 ho ho2 h2 (fun j hj => h3 j hj (hal j hj))) fun a' W' h => ?_
        refine ⟨hc', .inr (.inl ⟨fun j hj => ?_, by simp [h0'], h⟩)⟩
        by_cases e : j = i
        · simp [e]
        · simp [hal j (by omega)]
      · by_cases hi2 : i = n + 1
        · exfalso
          subst hi2
          obtain ⟨e, he, hb, hx⟩ := hwait2
          have : o = o2 := by rw [ho2] at ho; exact (Option.some.inj ho).symm
          subst this
          have := hdep e he hb
          rw [hx, h0] at this
          cases this
        · have hin : i < n := by omega
          have hs := hstep u W i o hin ho h2 (fun e he hb => h3 e.on (by have := hlex e he hb; omega) (hdep e he hb))
          have fin : ∀ a' W', Came F D C (Φ i) u i W a' W' → (Closed l (fun j => j == i || L j) ∧ (((n == i || L n) = false ∧ (n + 1 == i || L (n + 1)) = false ∧ ∃ u', a' = ⟨F u', D⟩ ∧ C W' ∧ ∀ j, j < n → (j == i || L j) = true → Φ j (u' j) W') ∨ ((∀ j, j ≤ n → (j == i || L j) = true) ∧ (n + 1 == i || L (n + 1)) = false ∧ wpList P l.toArray (Exit.then (fun a' W' => Q' .normal a' W') (fun _ _ _ => False)) [o2] a' W') ∨ ((∀ j, j ≤ n + 1 → (j == i || L j) = true) ∧ Q' .normal a' W'))) := by
            rintro a' W' ⟨v, q1, q2, q3, q4⟩
            refine ⟨hc', .inl ⟨by simp [h0]; omega, by simp [h0']; omega, upd u i v, q1, q3, fun j hj h => ?_⟩⟩
            by_cases e : j = i
            · subst e; rw [upd_same]; exact q2
            · rw [upd_other _ _ _ _ e]
              exact hΦ j _ _ _ (h3 j hj (by simpa [e] using h)) h2 q3 q4
          unfold wpList at hs ⊢
          split at hs
          · rename_i hw
            rw [if_pos hw]
            rcases hs with hs | ⟨hs1, a', w', hs⟩
            · exact .inl (oper_monoQ (fun _ _ _ h => h) (fun _ _ h => h) (Oper.wp_mono (fun a' w' h => by unfold wpList at h ⊢; exact fin _ _ h) hs))
            · exact hs.elim
          · rename_i hw
            rw [if_neg hw]
            unfold wpList at hs ⊢
            exact fin _ _ hs
    · by_cases hi2 : i = n + 1
      · subst hi2
        have : o = o2 := by rw [ho2] at ho; exact (Option.some.inj ho).symm
        subst this
        refine key (fun _ _ => True) _ [] h2 fun a' W' h => ?_
        unfold wpList at h
        refine ⟨hc', .inr (.inr ⟨fun j hj => ?_, h⟩)⟩
        by_cases e : j = n + 1
        · simp [e]
        · simp [h1 j (by omega)]
      · rw [h1 i (by omega)] at hL; cases hL
    · rw [h1 i (by omega)] at hL; cases hL
  · rintro a W ⟨_, ⟨h0, _⟩ | ⟨_, h0, _⟩ | ⟨_, h⟩⟩
    · cases h0
    · cases h0
    · exact h
/-- the last operation waits for all, by way of others -/
def lastAll (ops : Array Oper) (n : Nat) : Bool := decide (ops.size = n + 1) && (List.range n).all fun i => (needK ops n (needs ops [n])).contains i
/-- what an operation must come to, where some may write -/
def CameK (F : (Nat → Value) → Array Value) (D : List Deferred) (C : World → Prop) (Kp : World → World → Prop) (Φ : Value → World → Prop) (u : Nat → Value) (i : Nat) (W : World) (a : Act) (W' : World) : Prop :=
  ∃ v, a = ⟨F (upd u i v), D⟩ ∧ Φ v W' ∧ C W' ∧ Kp W W'
/-- THE LAW: operation k turns C false into C true; the last one, n, writes. -/
theorem region_mix {id : Nat} {Q' : Exit → Act → World → Prop} {a : Act} {w : World} {l : List Oper} (k n : Nat) (hkn : k < n) (hm : P.follows .mixedOrders = true) (hl : lexical l.toArray = true) (hn : lastAll l.toArray n = true)
    (F : (Nat → Value) → Array Value) (D : List Deferred) (u0 : Nat → Value) (ha : a = ⟨F u0, D⟩) (C : Bool → World → Prop) (hC : C false w.drew) (Kp : Bool → World → World → Prop) (Φ : Nat → Value → World → Prop)
    (hΦ : ∀ b i v W W', (i = k → b = true) → Φ i v W → Kp b W W' → Φ i v W')
    (hstep : ∀ (b : Bool) (u : Nat → Value) (W : World) (i : Nat) (o : Oper), i < n → i ≠ k → (b = true → (needK l.toArray n (needs l.toArray [k])).contains i = false) → l[i]? = some o → C b W → (∀ e ∈ o.after, Region.binds .any e = true → Φ e.on (u e.on) W) →
      wpList P l.toArray (Exit.then (CameK F D (C b) (Kp b) (Φ i) u i W) (fun _ _ _ => False)) [o] ⟨F u, D⟩ W)
    (hone : ∀ (u : Nat → Value) (W : World) (o : Oper), l[k]? = some o → C false W → (∀ e ∈ o.after, Region.binds .any e = true → Φ e.on (u e.on) W) →
      wpList P l.toArray (Exit.then (CameK F D (C true) (Kp false) (Φ k) u k W) (fun _ _ _ => False)) [o] ⟨F u, D⟩ W)
    (hlast : ∀ (u : Nat → Value) (W : World) (o : Oper), l[n]? = some o → C true W → (∀ i, i < n → Φ i (u i) W) → wpList P l.toArray (Exit.then (fun a' W' => Q' .normal a' W') (fun _ _ _ => False)) [o] ⟨F u, D⟩ W) : (Code.region id l.toArray true).wp P Q' a w := by
  simp only [lastAll, Bool.and_eq_true, decide_eq_true_eq] at hn
  obtain ⟨hsz, hall⟩ := hn
  have hsz' : l.length = n + 1 := by simpa using hsz
  have hall' : ∀ L : Nat → Bool, Closed l L → (∀ o, l[n]? = some o → ∀ e ∈ o.after, Region.binds .any e = true → L e.on = true) → ∀ i, i < n → L i = true := fun L hc h i hi => by
    have := List.all_eq_true.1 hall i (List.mem_range.2 hi)
    refine needK_listed hc n _ (fun y hy => ?_) i (by simpa using this)
    obtain ⟨j, hj, o, ho, e, he, hb, rfl⟩ := needs_mem hy
    rw [List.mem_singleton.1 hj] at ho
    exact h o (by simpa using ho) e he hb
  refine region_inv hm hl (fun L a W => Closed l L ∧ ((L n = false ∧ ∃ u, a = ⟨F u, D⟩ ∧ C (L k) W ∧ ∀ i, i < n → L i = true → Φ i (u i) W) ∨ ((∀ i, i ≤ n → L i = true) ∧ Q' .normal a W)))
    ⟨(fun j o _ h => by cases h), .inl ⟨rfl, u0, ha, hC, fun i _ h => by cases h⟩⟩ ?_ ?_ ?_
  · rintro L L' a W hE ⟨hc, hI⟩
    refine ⟨fun j o ho hj e he hb => ?_, ?_⟩
    · have hjl : j < l.length := (List.getElem?_eq_some_iff.1 ho).1
      have hlex := (lexical_spec hl (show l.toArray[j]? = some o by simpa using ho)).2 e he hb
      rw [← hE e.on (by omega)]
      exact hc j o ho (by rw [hE j hjl]; exact hj) e he hb
    · rcases hI with ⟨h0, u, h1, h2, h3⟩ | ⟨h1, h2⟩
      · exact .inl ⟨by rw [← hE n (by omega)]; exact h0, u, h1, by rw [← hE k (by omega)]; exact h2, fun i hi h => h3 i hi (by rw [hE i (by omega)]; exact h)⟩
      · exact .inr ⟨fun i hi => by rw [← hE i (by omega)]; exact h1 i hi, h2⟩
  · rintro L a W i o ⟨hc, hI⟩ ho hL hdep
    have hlex := (lexical_spec hl (show l.toArray[i]? = some o by simpa using ho)).2
    have hil : i < l.length := (List.getElem?_eq_some_iff.1 ho).1
    have hc' : Closed l (fun j => j == i || L j) := fun j o' ho' hj e he hb => by
      by_cases hji : j = i
      · subst hji
        have : o' = o := by rw [ho] at ho'; exact (Option.some.inj ho').symm
        subst this
        simp [hdep e he hb]
      · have := hc j o' ho' (by simpa [hji] using hj) e he hb
        simp [this]
    have key : ∀ (K K' : Act → World → Prop), wpList P l.toArray (Exit.then K (fun _ _ _ => False)) [o] a W → (∀ a' W', K a' W' → K' a' W') → wpList P l.toArray (Exit.then K' (fun _ _ _ => False)) [o] a W := by
      intro K K' hs fin
      unfold wpList at hs ⊢
      split at hs
      · rename_i hw
        rw [if_pos hw]
        rcases hs with hs | ⟨hs1, a', w', hs⟩
        · exact .inl (oper_monoQ (fun _ _ _ h => h) (fun _ _ h => h) (Oper.wp_mono (fun a' w' h => by unfold wpList at h ⊢; exact fin _ _ h) hs))
        · exact hs.elim
      · rename_i hw
        rw [if_neg hw]
        unfold wpList at hs ⊢
        exact fin _ _ hs
    rcases hI with ⟨h0, u, rfl, h2, h3⟩ | ⟨h1, _⟩
    · by_cases hi : i = n
      · subst hi
        have hal := hall' L hc (fun o' ho' e he hb => by
          have : o' = o := by rw [ho] at ho'; exact (Option.some.inj ho').symm
          subst this
          exact hdep e he hb)
        rw [hal k hkn] at h2
        refine key _ _ (hlast u W o ho h2 (fun j hj => h3 j hj (hal j hj))) fun a' W' h => ?_
        refine ⟨hc', .inr ⟨fun j hj => ?_, h⟩⟩
        by_cases e : j = i
        · simp [e]
        · simp [hal j (by omega)]
      · have hin : i < n := by omega
        have hd : ∀ e ∈ o.after, Region.binds .any e = true → Φ e.on (u e.on) W := fun e he hb => h3 e.on (by have := hlex e he hb; omega) (hdep e he hb)
        have fin : ∀ (b c : Bool), b = (k == i || L k) → (∀ j, j ≠ i → (j == i || L j) = true → j = k → c = true) → ∀ a' W', CameK F D (C b) (Kp c) (Φ i) u i W a' W' → (Closed l (fun j => j == i || L j) ∧ (((n == i || L n) = false ∧ ∃ u', a' = ⟨F u', D⟩ ∧ C (k == i || L k) W' ∧ ∀ j, j < n → (j == i || L j) = true → Φ j (u' j) W') ∨ ((∀ j, j ≤ n → (j == i || L j) = true) ∧ Q' .normal a' W'))) := by
          rintro b c hb hcb a' W' ⟨v, q1, q2, q3, q4⟩
          refine ⟨hc', .inl ⟨by simp [h0]; omega, upd u i v, q1, hb ▸ q3, fun j hj h => ?_⟩⟩
          by_cases e : j = i
          · subst e; rw [upd_same]; exact q2
          · rw [upd_other _ _ _ _ e]
            exact hΦ c j _ _ _ (hcb j e h) (h3 j hj (by simpa [e] using h)) q4
        by_cases hik : i = k
        · subst hik
          rw [hL] at h2
          exact key _ _ (hone u W o ho h2 hd) (fin true false (by simp) (fun j hj _ e => absurd e hj))
        · have hnd : L k = true → (needK l.toArray n (needs l.toArray [k])).contains i = false := fun hLk => by
            cases hcn : (needK l.toArray n (needs l.toArray [k])).contains i with
            | false => rfl
            | true =>
              have := needK_listed hc n (needs l.toArray [k]) (fun y hy => by
                obtain ⟨j, hj, o', ho', e, he, hb, rfl⟩ := needs_mem hy
                rw [List.mem_singleton.1 hj] at ho'
                exact hc k o' (by simpa using ho') hLk e he hb) i (by simpa using hcn)
              rw [hL] at this
              cases this
          exact key _ _ (hstep (L k) u W i o hin hik hnd ho h2 hd) (fin (L k) (L k) (by rw [show (k == i) = false from beq_eq_false_iff_ne.2 (fun e => hik e.symm), Bool.false_or]) (fun j hj h e => by subst e; simpa [hj] using h))
    · rw [h1 i (by omega)] at hL; cases hL
  · rintro a W ⟨_, ⟨h0, _⟩ | ⟨_, h⟩⟩
    · cases h0
    · exact h
end
end Go.Proofs.Ytloogjdojojehaa
