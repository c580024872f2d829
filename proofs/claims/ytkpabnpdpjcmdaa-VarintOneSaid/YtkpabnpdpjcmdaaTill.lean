/- A range over a function that goes on till it is told to stop: the law for it; and, in such a function, a region whose order is open and whose last operations call yield. -/
import Derived.Test.YtkpabnpdpjcmdaaRange
namespace Go.Proofs.Ytkpabnpdpjcmdaa
open Go.RowKit
set_option linter.unusedVariables false

section
variable {P : Program} {ops : Array Oper} {C : World → Prop}
theorem operIn_wide_quiet {n : Nat} {o : Oper} {a : Act} {w : World} {K : Act → World → Prop} {Q : Exit → Act → World → Prop} (hd : ∀ c, o.op ≠ .defer c)
    (h : o.wp P a w K (fun _ _ _ => False)) : o.wpIn Fence.wide n P a w K Q := by
  refine ⟨fun _ _ => trivial, ?_⟩
  rw [Oper.semAt_plain _ _ _ hd]
  unfold Oper.wp at h
  generalize (execOp a.eval o).run P w = r at h ⊢
  cases r with
  | ok x w' =>
    cases x <;> simp only [Oper.upon, Oper.uponIn] at h ⊢
    case value => exact h
    case skip => exact h
    case defer => exact h
    case enter =>
      refine ⟨fun e => by simp [Fence.wide] at e, callsIn_wide.2 (h.mono ?_)⟩
      intro e w'' he
      cases e <;> first | exact he | (obtain ⟨_, _, h'⟩ := he; cases h') | cases he
    case row => exact ⟨fun e => by simp [Fence.wide] at e, (fun c cs _ => let ⟨v, w', r, s⟩ := h c cs; ⟨v, w', r, stepsIn_wide.2 s⟩)⟩
  | halt x w' => cases x <;> simp only [Oper.upon] at h
theorem opIn_wide_of {n i : Nat} {a : Act} {w : World} {K : Act → World → Prop} {Q : Exit → Act → World → Prop} (hd : noDefer ops = true)
    (h : wpOp P ops (fun _ _ _ => False) i K a w) : wpOpIn Fence.wide n P ops Q i K a w := by
  unfold wpOp at h
  unfold wpOpIn
  cases ho : ops[i]? with
  | none => simp only [ho] at h; exact h
  | some o =>
    simp only [ho] at h
    by_cases hw : Region.wanted o (yielded ops a.tmps) = true
    · simp only [hw, if_true] at h ⊢
      rcases h with h' | ⟨_, h'⟩
      · exact operIn_wide_quiet (noDefer_spec hd ho) h'
      · obtain ⟨_, _, h'⟩ := h'; exact h'.elim
    · simp only [hw] at h ⊢
      exact ⟨fun _ _ => trivial, h⟩

theorem transferG {n : Nat} (hl : lexical ops = true) (hs : Region.sinkB .any ops n = true) (hc : Region.chainB .any ops n = true) (hn : n < ops.size)
    {Q : Act → Prop} {g : Nat} (G : Nat → Array Bool → Act → World → Prop)
    (hstep : ∀ (fuel : Nat) (listed : Array Bool) (a : Act) (w : World), Region.ready .any ops listed ≠ [] → (∀ k ∈ Region.ready .any ops listed, wpOp P ops (fun _ _ _ => False) k (G fuel (listed.setIfInBounds k true)) a w) → G (fuel + 1) listed a w)
    (hfin : ∀ (listed : Array Bool) (a : Act) (w : World), HeadInv .any ops n listed → (∀ i, i < n → listed.getD i true = true) → C w → Q a → G g listed a w) :
    ∀ (f : Nat) (listed : Array Bool) (a : Act) (w : World), HeadInv .any ops n listed → f ≤ un listed n → C w →
      wpAnyQ P .any (ops.extract 0 n) C Q f (listed.extract 0 n) a → G (f + g) listed a w := by
  have first : ∀ (listed : Array Bool), HeadInv .any ops n listed → ∀ i, i < n → listed.getD i true = false → ∃ k, k < n ∧ k ∈ Region.ready .any ops listed := by
    intro listed inv i
    induction i using Nat.strongRecOn with
    | _ i ih =>
      intro hi hun
      have hio : i < ops.size := by omega
      obtain ⟨oi, hoi⟩ : ∃ oi, ops[i]? = some oi := ⟨_, Array.getElem?_eq_getElem hio⟩
      by_cases hall : ∀ e ∈ oi.after, Region.binds .any e = true → listed.getD e.on false = true
      · exact ⟨i, hi, mem_ready.2 ⟨hun, oi, hoi, hall⟩⟩
      · obtain ⟨e, he⟩ := Classical.not_forall.1 hall
        obtain ⟨he1, he2⟩ := Classical.not_forall.1 he
        obtain ⟨he3, he4⟩ := Classical.not_forall.1 he2
        have hlt := (lexical_spec hl hoi).2 e he1 he3
        have : listed.getD e.on true = false := by
          have hsz : e.on < listed.size := by rw [inv.size]; omega
          simp [hsz] at he4 ⊢
          exact he4
        exact ih e.on hlt (by omega) this
  have up : ∀ (listed : Array Bool), HeadInv .any ops n listed → ∀ i, i < n → i ∈ Region.ready .any ops listed → i ∈ Region.ready .any (ops.extract 0 n) (listed.extract 0 n) := by
    intro listed inv i hi hr
    obtain ⟨h1, oi, hoi, h3⟩ := mem_ready.1 hr
    refine mem_ready.2 ⟨by rw [extract_getD _ _ _ hi]; exact h1, oi, ?_, fun e he hb => ?_⟩
    · rw [Array.getElem?_extract, if_pos (by omega)]; simpa using hoi
    · have := (lexical_spec hl hoi).2 e he hb
      rw [extract_getD _ _ _ (by omega)]
      exact h3 e he hb
  have down : ∀ (listed : Array Bool), HeadInv .any ops n listed → Region.ready .any (ops.extract 0 n) (listed.extract 0 n) = [] → ∀ i, i < n → listed.getD i true = true := by
    intro listed inv h0 i hi
    cases hu : listed.getD i true with
    | true => rfl
    | false =>
      obtain ⟨k, hk, hr⟩ := first listed inv i hi hu
      have := up listed inv k hk hr
      rw [h0] at this
      cases this
  intro f
  induction f with
  | zero =>
    intro listed a w inv _ hC h
    rw [Nat.zero_add]
    exact hfin listed a w inv (down listed inv h.1) hC h.2
  | succ f ih =>
    intro listed a w inv hun hC h
    obtain ⟨i, hi, hu⟩ := un_pos listed n (by omega)
    rw [show f + 1 + g = (f + g) + 1 by omega]
    refine hstep _ _ _ _ (fun h0 => ?_) (fun k hk => ?_)
    · obtain ⟨k, _, hr⟩ := first listed inv i hi hu
      rw [h0] at hr; cases hr
    · have hkn : k < n := by
        rcases Nat.lt_or_ge k n with h' | h'
        · exact h'
        · exact absurd hk (tail_waits hs hc hn inv _ i rfl hi hu k h')
      have hq := h.2 k (up listed inv k hkn hk)
      obtain ⟨_, ok, hok, _⟩ := mem_ready.1 hk
      have hgd := (lexical_spec hl hok).1
      have hq' : qOp P ops C k (wpAnyQ P .any (ops.extract 0 n) C Q f ((listed.setIfInBounds k true).extract 0 n)) a := by
        rw [extract_set _ _ _ hkn]
        unfold qOp at hq ⊢
        have e1 : (ops.extract 0 n)[k]? = some ok := by rw [Array.getElem?_extract, if_pos (by omega)]; simpa using hok
        have e2 : Region.wanted ok (yielded (ops.extract 0 n) a.tmps) = Region.wanted ok (yielded ops a.tmps) := wanted_same fun i want hg => by
          have := hgd i want hg
          simp only [yielded, Array.getElem?_extract]
          rw [if_pos (by omega), Nat.zero_add]
        simp only [e1, hok, e2] at hq ⊢
        exact hq
      have hcnt := un_set listed k n
      exact wpOp_of_qOp hC (fun a' w' hC' hK => ih _ a' w' (inv.set hk hkn) (by omega) hC' hK) hq'

theorem anyIn_of_seq {F : Fence} {m : Nat} {Q' : Exit → Act → World → Prop} : ∀ (l : List Oper) (k : Nat) (listed : Array Bool) (a : Act) (w : World), (∀ j, l[j]? = ops[k + j]?) →
    Region.seqB .any ops l.length k listed = true → wpListIn F m P ops Q' l a w → wpAnyIn F m P .any ops Q' l.length listed a w
  | [], _, _, _, _, _, hB, h => ⟨by simpa [Region.seqB] using hB, h⟩
  | o :: l, k, listed, a, w, hl, hB, h => by
    have h0 : ops[k]? = some o := by simpa using (hl 0).symm
    simp only [List.length_cons, Region.seqB, Bool.and_eq_true, decide_eq_true_eq] at hB
    refine ⟨fun h1 => (by rw [hB.1] at h1; cases h1), fun i hi => ?_⟩
    rw [hB.1] at hi
    have hik : i = k := by simpa using hi
    subst hik
    have hw : wpOpIn F m P ops Q' i (wpListIn F m P ops Q' l) a w := by unfold wpOpIn; simp only [h0]; exact h
    exact wpOpIn_mono (fun a' w' h' => anyIn_of_seq l (i + 1) _ a' w' (fun j => by have := hl (j + 1); simpa [Nat.add_assoc, Nat.add_comm 1 j] using this) hB.2 h') hw

/-- the heads are quiet, the tail may call yield -/
theorem regionIn_wide_tail {m : Nat} {id : Nat} {Q' : Exit → Act → World → Prop} {a : Act} {w : World} {l : List Oper} (n : Nat) (hm : P.follows .mixedOrders = true) (hd : noDefer l.toArray = true) (hB : tailB l.toArray n = true)
    (hC : C w.drew) (h : wpQuiet P (l.take n).toArray C (fun a' => ∀ w', C w' → wpListIn Fence.wide m P l.toArray Q' (l.drop n) a' w') (l.take n) a) : (Code.region id l.toArray true).wpIn Fence.wide m P Q' a w := by
  refine wpIn_region_any hm ?_
  simp only [tailB, Bool.and_eq_true, decide_eq_true_eq] at hB
  obtain ⟨⟨⟨⟨⟨hl, hn⟩, hs⟩, hc⟩, hx⟩, hq⟩ := hB
  have hn' : n < l.length := by simpa using hn
  have htl : (l.take n).length = n := by simp; omega
  have hext : l.toArray.extract 0 n = (l.take n).toArray := by simp
  have inv0 : HeadInv .any l.toArray n (Array.replicate l.toArray.size false) :=
    ⟨by simp, fun j oj _ hl' => (by rw [getD_replicate_false] at hl'; cases hl'), fun t _ ht => getD_in (by simpa using ht) (getD_replicate_false _ _)⟩
  rw [hext] at hx
  simp only [Region.lexB, Bool.and_eq_true] at hx
  have H0 := wpAnyQ_lex (P := P) (C := C) (md := .any) hx.1 (l.take n) 0 (Array.replicate (l.take n).toArray.size false) a (by simp) (by simpa using hx.2) h
  rw [htl] at H0
  have hrep : (Array.replicate l.toArray.size false).extract 0 n = Array.replicate (l.take n).toArray.size false := by
    simp
  have := transferG (P := P) (C := C) (g := l.toArray.size - n) hl hs hc hn (Q := fun a' => ∀ w', C w' → wpListIn Fence.wide m P l.toArray Q' (l.drop n) a' w') (fun f ls a' w' => wpAnyIn Fence.wide m P .any l.toArray Q' f ls a' w')
    (fun fuel listed a' w' hne hk => ⟨fun h0 => absurd h0 hne, fun k hk' => opIn_wide_of hd (hk k hk')⟩)
    (fun listed a' w' inv hall hC' hQ => by
      have hlisted : listed = headsDone n l.toArray.size := by
        apply Array.ext
        · simp [headsDone, inv.size]
        · intro i h1 h2
          by_cases hi : i < n
          · have := hall i hi
            simp [h1] at this
            simp [headsDone, hi, this]
          · have := inv.tail i (by omega) (by rw [inv.size] at h1; exact h1)
            simp [h1] at this
            simp [headsDone, hi, this]
      have hz := anyIn_of_seq (F := Fence.wide) (m := m) (Q' := Q') (l.drop n) n listed a' w' (fun j => by simp [List.getElem?_drop]) (by rw [hlisted]; simpa using hq) (hQ w' hC')
      simpa using hz) n (Array.replicate l.toArray.size false) a w.drew inv0 (by rw [un_all _ n (fun i hi => getD_in (by simpa using (by omega)) (getD_replicate_false _ _))]; omega) hC (by rw [hrep, hext]; exact H0)
  rw [show n + (l.toArray.size - n) = l.toArray.size by omega] at this
  exact this
end
theorem grown_below {w w' : World} (h : Below w.heap.size w w') : w.grownBy w' none := ⟨h.os, h.tape, h.output, h.size, fun k hk _ => h.block k hk⟩

/-- The iterator goes on till it is told to stop; that this comes, the caller says (fewer than N have come whenever it goes on). -/
def SeqTill {α : Type} (n : Nat) (P : Program) (g : Nat) (lb : Array Value) (encs : α → Array Value) (Kp : World → World → Prop) (Sp : List α → Prop) (N : Nat) (w : World) : Prop :=
  ∀ (l : Nat) (J Jx : List α → World → Prop) (W : World), Below w.heap.size w W → AbidesFrom W.heap.size J → AbidesFrom W.heap.size Jx → (∀ pre W1, J pre W1 → pre.length < N) →
    (∀ pre x W1, J pre W1 → YieldAt Fence.wide (n - 1) P l (encs x) W1 fun e W' => (e = .returned (.bool true) ∧ J (pre ++ [x]) W' ∧ Kp W1 W') ∨ (e = .returned (.bool false) ∧ Jx (pre ++ [x]) W')) →
    J [] W → CallsIn Fence.wide n P g (#[.func (.yield l) #[] #[]] ++ lb) W fun e W' => (∃ v, e = .returned v) ∧ ∃ pre, Sp pre ∧ Jx pre W'

/-- how a round may be left: it goes on, or leaves by the jump j -/
def tillPost (B : Nat) (j : Nat) (Kp : World → World → Prop) (I Ix : World → Prop) (W : World) : Exit → Act → World → Prop
  | .normal, _, W' => KeepsFrom B W W' ∧ Kp W W' ∧ I W'
  | .exit i, _, W' => i = j ∧ KeepsFrom B W W' ∧ Ix W'
  | _, _, _ => False

/-- what the loop's book-keeping has at its two blocks, B and B + 1 -/
structure Booked (B : Nat) (rc : Loop) (W : World) : Prop where
  loop : W.heap[B + 1]? = some (.loop rc)
  late : W.heap[B]? = some (.deferred (some []))
theorem Booked.lt {B : Nat} {rc : Loop} {W : World} (h : Booked B rc W) : B + 1 < W.heap.size := (Array.getElem?_eq_some_iff.1 h.loop).1
theorem Booked.turn {B : Nat} {rc : Loop} {W : World} (h : Booked B rc W) (rc' : Loop) : Booked B rc' (W.putObj (B + 1) (.loop rc')) :=
  ⟨World.putObj_heap_same h.lt, (World.putObj_heap_other (by omega)).trans h.late⟩
theorem Booked.keep {B : Nat} {rc : Loop} {W W' : World} (h : Booked B rc W) (k : KeepsFrom B W W') : Booked B rc W' :=
  ⟨k.same _ _ (by omega) h.loop rfl, k.same _ _ (Nat.le_refl _) h.late rfl⟩
theorem Booked.grown {B : Nat} {rc : Loop} {W W' : World} {row : Option Nat} (h : Booked B rc W) (hg : W.grownBy W' row) (hr : ∀ r, row = some r → ∃ o : Obj, W.heap[r]? = some o ∧ o.isWalk = true) : Booked B rc W' :=
  ⟨(grownBy_keeps hg hr h.loop rfl).trans h.loop, (grownBy_keeps hg hr h.late rfl).trans h.late⟩

variable {P : Program} {n : Nat}
/-- THE LAW: a loop over such an iterator; each round goes on or leaves by the jump j; the loop's variables may lie in memory. -/
theorem wpIn_rangeFunc_till {α : Type} {g : Operand} {ps : Array Tmp} {assign body : Code} {Q : Exit → Act → World → Prop} {a : Act} {w : World}
    (h1 : 1 ≤ n) {gf : Nat} {lb : Array Value} (hg : a.eval g = .func (.func gf) #[] lb) (eg : ∀ args w, (callFunc gf args).run P w = .ok (.enter gf args) w)
    {encs : α → Array Value} {Kp : World → World → Prop} {Sp : List α → Prop} {N : Nat} {w0 : World} (hseq : SeqTill (n - 1) P gf lb encs Kp Sp N w0)
    (hKt : ∀ {A B C : World}, Kp A B → Kp B C → Kp A C) (hKb : ∀ (W : World) (l : Nat) (o o' : Obj), w.heap.size ≤ l → W.heap[l]? = some o → o.isCells = false → o.isWalk = false → Kp W (W.putObj l o'))
    (hb0 : Below w0.heap.size w0 w) (hps : ∀ x, (encs x).size = ps.size)
    (j : Nat) (I Ix : List α → World → Prop) (hI : OwnFrom w.heap.size I) (hIx : OwnFrom w.heap.size Ix) (h0 : I [] w) (hN : ∀ pre W, I pre W → pre.length < N)
    (Ax : α → Act → World → Prop) (hAx : ∀ x a', OwnFrom w.heap.size (fun (_ : Unit) W => Ax x a' W))
    (hassign : ∀ (l : Nat) (pre : List α) (x : α) (W : World) (K : Act → World → Prop), I pre W → (∀ a' W', KeepsFrom w.heap.size W W' → Kp W W' → I pre W' → Ax x a' W' → K a' W') →
      assign.wpIn (Fence.wide.inRound l) (n - 1 - 1) P (Exit.then K (fun _ _ _ => False)) { tmps := (ps.zip (encs x)).foldl (fun t (p, v) => t.setIfInBounds p v) a.tmps, defers := [] } W)
    (hbody : ∀ (l : Nat) (pre : List α) (x : α) (a' : Act) (W : World), w.heap.size ≤ l → I pre W → Ax x a' W → body.wpIn (Fence.wide.inRound l) (n - 1 - 1) P (tillPost w.heap.size j Kp (I (pre ++ [x])) (Ix (pre ++ [x])) W) a' W)
    (hstop : ∀ (D : Nat) (pre : List α) (W : World), w.heap.size ≤ D → Sp pre → Ix pre W → W.heap[D]? = some (.deferred (some [])) → (Code.exit j).wpIn Fence.wide n P Q { a with defers := { target := .collected D, args := #[] } :: a.defers } W) :
    (Code.rangeFunc g ps assign body).wpIn Fence.wide n P Q a w := by
  refine wpIn_rangeFunc fun fn hfn => ?_
  obtain ⟨rc, hrc⟩ : ∃ rc : LoopState → Option Code → Loop, rc = fun st pe => { state := st, pending := pe, fn, tmps := a.tmps, params := ps, assign, body, defers := w.heap.size } := ⟨_, rfl⟩
  obtain ⟨W1, hW1⟩ : ∃ W1, W1 = (w.alloc (.deferred (some []))).alloc (.loop (rc .ready none)) := ⟨_, rfl⟩
  have hbk : Booked w.heap.size (rc .ready none) W1 := by
    subst hW1
    refine ⟨?_, (Below.heap_alloc _ _ _ (by simp)).trans (World.alloc_heap_new w _)⟩
    have := World.alloc_heap_new (w.alloc (.deferred (some []))) (.loop (rc .ready none))
    rwa [World.size_alloc] at this
  have hI1 : I [] W1 := hW1 ▸ hI.alloc _ (hI.alloc _ h0)
  have hsz : w.heap.size + 2 = W1.heap.size := by subst hW1; simp
  have hb1 : Below w0.heap.size w0 W1 := by
    subst hW1
    exact hb0.trans ((((Below.refl _ w).alloc (Nat.le_refl _) _).alloc (by simp) _).mono hb0.size)
  have turns : ∀ (W : World) (r r' : Loop), Booked w.heap.size r W → Kp W (W.putObj (w.heap.size + 1) (.loop r')) := fun W r r' h => hKb _ _ _ _ (by omega) h.loop rfl rfl
  have hrow : ∀ {A : World} {row : Option Nat}, (∀ r, row = some r → W1.heap.size ≤ r ∧ ∃ o : Obj, A.heap[r]? = some o ∧ o.isWalk = true) → ∀ r, row = some r → w.heap.size ≤ r ∧ ∃ o : Obj, A.heap[r]? = some o ∧ o.isCells = false :=
    fun hr r e => by
      obtain ⟨q1, o, q2, q3⟩ := hr r e
      exact ⟨by omega, o, q2, Obj.not_cells_of_walk q3⟩
  refine ⟨w.heap.size + 1, [{ target := .collected w.heap.size, args := #[] }], W1, { target := .fn (.func gf) lb, args := #[.func (.yield (w.heap.size + 1)) #[] #[]] }, W1, gf,
    #[.func (.yield (w.heap.size + 1)) #[] #[]] ++ lb, W1, ?_, ?_, fun f' _ => trivial, ?_, fun _ => h1, ?_⟩
  · rw [hW1, hrc]; exact run_enterLoop_outer _ _ _ _ _
  · simp only [resolve, hg]
    simp [go_sem]
  · simp [invoke, go_sem, eg]
  refine (hseq (w.heap.size + 1) (fun pre W => I pre W ∧ Booked w.heap.size (rc .ready none) W) (fun pre W => Ix pre W ∧ Booked w.heap.size (rc .done (some (Code.exit j))) W) W1 hb1
    (fun s A B row hs hg' hr => ⟨hI s A B row hs.1 hg' (hrow hr), hs.2.grown hg' (fun r e => (hr r e).2)⟩)
    (fun s A B row hs hg' hr => ⟨hIx s A B row hs.1 hg' (hrow hr), hs.2.grown hg' (fun r e => (hr r e).2)⟩)
    (fun pre W h => hN pre W h.1) ?_ ⟨hI1, hbk⟩).mono ?_
  · rintro pre x W ⟨hi, hk⟩
    have hy := run_yield (P := P) (args := encs x) hk.loop (by rw [hrc]; exact hps x)
    rw [hrc] at hy
    refine ⟨fn, _, assign, body, hy, roundIn_of_wpIn trivial (hassign _ pre x W _ hi fun a' Wa ka kp hia hax => ?_)⟩
    have hka := hk.keep ka
    refine ⟨_, run_beginRound hka.loop (by rw [hrc]), ?_⟩
    have hkb := hka.turn { rc .ready none with state := .busy }
    refine wpIn_mono (hbody _ pre x a' _ (by omega) (hI.putObj _ hia (by omega) hka.loop rfl) ((hAx x a').putObj (s := ()) _ hax (by omega) hka.loop rfl)) ?_
    have fin : ∀ (jump : Option Code) (W3 : World), Booked w.heap.size { rc .ready none with state := .busy } W3 → (Instr.endRound (w.heap.size + 1) jump).run P W3 = .ok (.bool jump.isNone) (W3.putObj (w.heap.size + 1) (.loop (rc (if jump.isNone then .ready else .done) jump))) := fun jump W3 h3 => by
      have := run_endRound (P := P) jump h3.loop
      rw [hrc] at this ⊢
      exact this
    rintro e a3 W3 hp
    cases e with
    | normal =>
      obtain ⟨k3, kp3, i3⟩ := hp
      have h3 := hkb.keep k3
      exact ⟨_, _, fin none W3 h3, .inl ⟨rfl, ⟨hI.putObj _ i3 (by omega) h3.loop rfl, h3.turn _⟩, hKt kp (hKt (hKt (turns _ _ _ hka) kp3) (turns _ _ _ h3))⟩⟩
    | exit id =>
      obtain ⟨rfl, k3, i3⟩ := hp
      have h3 := hkb.keep k3
      exact ⟨_, _, fin (some (.exit id)) W3 h3, .inr ⟨rfl, hIx.putObj _ i3 (by omega) h3.loop rfl, h3.turn _⟩⟩
    | ret => exact hp.elim
    | goto t => exact hp.elim
    | panic ch => exact hp.elim
    | outgrown => exact hp.elim
  · rintro e W2 ⟨⟨v, rfl⟩, pre, hSp, hi, hk⟩
    have := run_endLoop (P := P) hk.loop (by rw [hrc]; simp)
    rw [hrc] at this
    exact ⟨some (.exit j), _, this, hstop _ pre _ (Nat.le_refl _) hSp (hIx.putObj _ hi (by omega) hk.loop rfl) ((World.putObj_heap_other (by omega)).trans hk.late)⟩
end Go.Proofs.Ytkpabnpdpjcmdaa
