/- The store's map of blocks, by their names: keys that are hashes, what is looked up, what is put. -/
import Derived.Test.YtbobdbdknapdcaaD5
import Derived.Test.YtbobdbdknapdcaaG2
import Derived.Test.YtbobdbdknapdcaaZ0
import Derived.Maps.OwnSet
import Derived.DeepKeys4
namespace Go.Proofs.Ytbobdbdknapdcaa
open Go.RowKit
open Go.Maps (Keyed)
set_option linter.unusedVariables false

/-- a block's name, as a value -/
def agN (l : List Int) : Value := .agg (ints .u8 l).toArray
def nmB (x : List Nat) : List Int := sumL (tx x)
theorem nmB_sl (s : ByteArray) : nmB (sl s) = sumL s := by unfold nmB; rw [tx_sl]
theorem nmB_len (x : List Nat) : (nmB x).length = 32 := sumL_len _
theorem nmB_oct (x : List Nat) : Octets (nmB x) := sumL_octets _
theorem ints_inj : ∀ {l m : List Int}, ints .u8 l = ints .u8 m → l = m
  | [], [], _ => rfl
  | [], _ :: _, e => by cases e
  | _ :: _, [], e => by cases e
  | a :: l, b :: m, e => by
    unfold ints at e
    rw [List.map_cons, List.map_cons, List.cons.injEq] at e
    obtain ⟨e1, e2⟩ := e
    rw [(Value.int.inj e1).2, ints_inj (l := l) (m := m) e2]
theorem agN_inj {l m : List Int} (h : agN l = agN m) : l = m := by
  unfold agN at h
  have := congrArg Array.toList (Value.agg.inj h)
  rw [List.toList_toArray, List.toList_toArray] at this
  exact ints_inj this
theorem wf_u8N {n : Int} (h0 : 0 ≤ n) (h1 : n < 256) : (Lit.int .u8 n).wf = true := by
  have a : IntKind.u8.min = 0 := rfl
  have b : IntKind.u8.max = 255 := rfl
  simp only [Lit.wf, a, b, Bool.and_eq_true, decide_eq_true_eq]
  omega
theorem law_hashK : Keyed Try.prog 30 := .of_law (deep_law_laid laidOut (m := 2) (by omega) (of_decide_eq_true (by kernel_rfl)) (by kernel_rfl) (by kernel_rfl))
theorem keyT_hash : Try.prog.keyType 30 = true := by kernel_rfl
theorem cellsOf_hash : Try.prog.cellsOf 30 = 32 := by kernel_rfl
theorem typesN : ∃ n, Try.prog.types.size + 1 = n + 2 := by
  have h : 1 ≤ Try.prog.types.size := of_decide_eq_true (by kernel_rfl)
  exact ⟨Try.prog.types.size - 1, by omega⟩
theorem mapM_is {α β : Type} {f : α → Option β} {g : α → β} : ∀ {l : List α}, (∀ x ∈ l, f x = some (g x)) → l.mapM f = some (l.map g)
  | [], _ => rfl
  | x :: l, h => by
    have h1 := h x (by simp)
    have h2 := mapM_is (l := l) fun z hz => h z (by simp [hz])
    simp [List.mapM_cons, h1, h2]
theorem flat_ones {α β : Type} (h : α → β) : ∀ l : List α, (l.map fun i => [h i]).flatten = l.map h
  | [] => rfl
  | x :: l => by rw [List.map_cons, List.flatten_cons, flat_ones h l]; rfl
/-- a name as a key -/
def kNm (l : List Int) : Lit := .string (keyBytes (l.map fun n => Lit.int .u8 n))
theorem kNm_is {l : List Int} (h : Octets l) (h32 : l.length = 32) : _root_.Go.keyOf Try.prog 30 (agN l) = some (kNm l) := by
  obtain ⟨n, hn⟩ := typesN
  have hf : (agN l).formed Try.prog 30 = true := by
    unfold agN Value.formed
    simp only [Try.underlying30, cellsOf_hash, List.size_toArray, ints_length, h32]
    rfl
  have hk : Try.prog.keyLits (n + 2) 30 (ints .u8 l) = some (l.map fun n => Lit.int .u8 n) := by
    unfold Program.keyLits
    simp only [Try.underlying30, cellsOf_hash, ints_length, h32, if_true, cells_u8]
    have hm := mapM_is (l := List.range 32) (f := fun i => Try.prog.keyLits (n + 1) 5 (((ints .u8 l).drop (i * 1)).take 1)) (g := fun i => [Lit.int .u8 (l.getD i 0)]) fun i hi => by
      have hi := List.mem_range.1 hi
      have e : ((ints .u8 l).drop (i * 1)).take 1 = [.int .u8 (l.getD i 0)] := by
        have := ints_get .u8 l i (by omega)
        rw [Nat.mul_one, List.take_one, List.head?_drop, this]
        rfl
      have ho := h (l.getD i 0) (by rw [List.getD_eq_getElem?_getD, List.getElem?_eq_getElem (by omega)]; exact List.getElem_mem _)
      have hw : (Lit.int .u8 (l.getD i 0)).wf = true := wf_u8N ho.1 ho.2
      rw [e]
      unfold Program.keyLits
      simp only [Try.underlying5]
      rw [hw]
      rfl
    rw [hm, Option.map_some, flat_ones]
    refine congrArg some (List.ext_getElem (by simp [h32]) fun i h1 h2 => ?_)
    rw [List.getElem_map, List.getElem_map, List.getElem_range, List.getD_eq_getElem?_getD, List.getElem?_eq_getElem (by simpa using h2)]
    rfl
  unfold _root_.Go.keyOf
  simp only [Try.underlying30, keyT_hash, hf, Bool.and_self, if_true, hn]
  have hc : (agN l).cells.toList = ints .u8 l := by unfold agN; rfl
  rw [hc, hk]
  rfl
theorem kNm_inj {l m : List Int} (h : Octets l) (h32 : l.length = 32) (h' : Octets m) (h32' : m.length = 32) (e : kNm l = kNm m) : l = m :=
  agN_inj (law_hashK.inj (kNm_is h h32) (by rw [e]; exact kNm_is h' h32'))
theorem kNm_key {l : List Int} (h : Octets l) (h32 : l.length = 32) : WideAt.IsKeyLit (kNm l) := law_hashK.key (kNm_is h h32)
/-- a block, as it is read in the map -/
def blkL : List Value → Option (DataW Unit × List MemPlace)
  | [.string s] => some (.lit (.string s.data.toList), [])
  | _ => none
def blkR : Value → Option (DataW Unit × List MemPlace)
  | .agg cs => blkL cs.toList
  | _ => none
def bkV (x : List Nat) : Value := .agg #[.string (tx x)]
def bkD (x : List Nat) : DataW Unit := .lit (.string (tx x).data.toList)
theorem blkR_mk (x : List Nat) : blkR (bkV x) = some (bkD x, []) := rfl
theorem blkL_inv {l : List Value} {x : List Nat} {ps : List MemPlace} (h : blkL l = some (bkD x, ps)) : l = [.string (tx x)] := by
  unfold blkL at h
  split at h
  · rename_i s
    unfold bkD at h
    simp only [Option.some.injEq, Prod.mk.injEq, DataW.lit.injEq, Lit.string.injEq] at h
    have e : s = tx x := by
      have := h.1
      cases s
      cases hx : tx x
      rw [hx] at this
      congr 1
      exact Array.toList_inj.1 this
    rw [e]
  · cases h
theorem blkR_inv {v : Value} {x : List Nat} {ps : List MemPlace} (h : blkR v = some (bkD x, ps)) : v = bkV x := by
  unfold blkR at h
  split at h
  · rename_i cs
    have := blkL_inv h
    unfold bkV
    congr 1
    exact Array.toList_inj.1 this
  · cases h
/-- the map of these blocks -/
structure MapW (w : World) (M k : Nat) (D : DataW Unit) (L : List (List Nat)) : Prop where
  map : w.ownsMap Try.prog 30 blkR M k D
  att : ∀ x ∈ L, ∀ zd, D.atKey (kNm (nmB x)) zd = bkD x
  has : ∀ l, Octets l → l.length = 32 → Maps.has D (kNm l) = decide (l ∈ L.map nmB)
  size : k ≤ L.length
namespace MapW
variable {w w' : World} {M k : Nat} {D : DataW Unit} {L : List (List Nat)}
theorem same (h : MapW w M k D L) (hM : w'.heap[M]? = w.heap[M]?) : MapW w' M k D L := by
  refine ⟨?_, h.att, h.has, h.size⟩
  obtain ⟨es, clock, hb, F, hs, hD⟩ := h.map
  exact ⟨es, clock, hM.trans hb, F, hs, hD⟩
theorem below (h : MapW w M k D L) (hb : Below w.heap.size w w') : MapW w' M k D L := h.same (hb.block M h.map.lt)
theorem drewN (h : MapW w M k D L) (n : Nat) : MapW (w.drewN n) M k D L := h.same rfl
theorem made (w : World) : MapW (w.alloc (.map #[] 0)) w.heap.size 0 (.map []) [] :=
  ⟨World.ownsMap_made w _ _ _, (fun x h => by cases h), fun l _ _ => rfl, Nat.le_refl _⟩
/-- a look-up of a block that is there -/
theorem look (h : MapW w M k D L) {x : List Nat} (hx : x ∈ L) (c : Bool) : (Instr.lookup 51 (.map (some M)) (agN (nmB x)) c).run Try.prog w = .ok (if c then .tuple #[bkV x, .bool true] else bkV x) w := by
  have hk := kNm_is (nmB_oct x) (nmB_len x)
  cases c
  · obtain ⟨v, ps, hrun, hv⟩ := h.map.lookup law_hashK Try.underlying51 (Try.zeroValue75 w) (blkR_mk []) hk
    rw [h.att x hx] at hv
    rw [hrun, blkR_inv hv]
    rfl
  · obtain ⟨v, ps, hrun, hv⟩ := h.map.look_ok law_hashK Try.underlying51 (Try.zeroValue75 w) (blkR_mk []) hk
    rw [h.att x hx] at hv
    rw [hrun, blkR_inv hv, h.has _ (nmB_oct x) (nmB_len x), decide_eq_true (List.mem_map.2 ⟨x, hx, rfl⟩)]
    rfl
/-- a look-up of a name that is not there -/
theorem none (h : MapW w M k D L) {l : List Int} (ho : Octets l) (h32 : l.length = 32) (hn : l ∉ L.map nmB) : (Instr.lookup 51 (.map (some M)) (agN l) true).run Try.prog w = .ok (.tuple #[bkV [], .bool false]) w := by
  have hk := kNm_is ho h32
  have hh := h.has l ho h32
  rw [decide_eq_false hn] at hh
  obtain ⟨v, ps, hrun, hv⟩ := h.map.look_ok law_hashK Try.underlying51 (Try.zeroValue75 w) (blkR_mk []) hk
  rw [Maps.atKey_of_not_has hh] at hv
  rw [hrun, blkR_inv hv, hh]
theorem put (h : MapW w M k D L) {x : List Nat} (hx : nmB x ∉ L.map nmB) (hm : w'.ownsMap Try.prog 30 blkR M (k + 1) (D.put (kNm (nmB x)) (bkD x))) : MapW w' M (k + 1) (D.put (kNm (nmB x)) (bkD x)) (L ++ [x]) := by
  have hD := h.map.isMap
  have hk := kNm_key (nmB_oct x) (nmB_len x)
  refine ⟨hm, fun y hy zd => ?_, fun l ho h32 => ?_, by rw [List.length_append]; have := h.size; simp; omega⟩
  · rcases List.mem_append.1 hy with hy | hy
    · rw [Maps.atKey_put_other (fun e => hx (by rw [← kNm_inj (nmB_oct y) (nmB_len y) (nmB_oct x) (nmB_len x) e]; exact List.mem_map.2 ⟨y, hy, rfl⟩))]
      exact h.att y hy zd
    · rw [List.mem_singleton.1 hy, Maps.atKey_put_same hD hk]
  · by_cases e : l = nmB x
    · subst e
      rw [Maps.has_put_same hD hk, decide_eq_true (by simp)]
    · rw [Maps.has_put_other (fun e' => e (kNm_inj ho h32 (nmB_oct x) (nmB_len x) e')), h.has l ho h32]
      have : (l ∈ (L ++ [x]).map nmB) ↔ l ∈ L.map nmB := by
        rw [List.map_append, List.mem_append]
        exact ⟨fun hh => hh.elim id fun h' => absurd (List.mem_singleton.1 h') e, .inl⟩
      by_cases hl : l ∈ L.map nmB
      · rw [decide_eq_true hl, decide_eq_true (this.2 hl)]
      · rw [decide_eq_false hl, decide_eq_false fun h' => hl (this.1 h')]
end MapW
end Go.Proofs.Ytbobdbdknapdcaa
