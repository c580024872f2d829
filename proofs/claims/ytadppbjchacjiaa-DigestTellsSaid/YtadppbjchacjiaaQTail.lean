/- A region whose order is open: all operations but the last few are quiet in a class of worlds, the last few come in one forced order: one walk in the text's order serves. -/
import Derived.StillTail
import Derived.Deep.MidRow
import Derived.Deep.Quiet
import Derived.Deep.QuietTactic
import Derived.BigQuiet
import Derived.StillTailTactics
namespace Go.Proofs.Ytadppbjchacjiaa
set_option linter.unusedVariables false

theorem wanted_free {o : Oper} (h : o.guard = none) (y : List (Option Value)) (z : Array Oper) (t : Array Value) : Region.wanted o (yielded z t) = true := by
  simp [Region.wanted, h]

/-- what a guard asks hangs on the operation that it names -/
theorem wanted_same {o : Oper} {f g : Nat → Option Bool} (h : ∀ i want, o.guard = some (i, want) → f i = g i) : Region.wanted o f = Region.wanted o g := by
  unfold Region.wanted
  cases hg : o.guard with
  | none => rfl
  | some p => simp only [h p.1 p.2 hg]

/-- checked by the kernel: each operation waits for earlier ones alone and has no guard -/
def lexical (ops : Array Oper) : Bool :=
  (List.range ops.size).all fun j => match ops[j]? with
    | some o => (match o.guard with | none => true | some (i, _) => decide (i < j)) && o.after.all fun e => !Region.binds .any e || decide (e.on < j)
    | none => true

theorem lexical_spec {ops : Array Oper} (h : lexical ops = true) {j : Nat} {o : Oper} (ho : ops[j]? = some o) :
    (∀ i want, o.guard = some (i, want) → i < j) ∧ ∀ e ∈ o.after, Region.binds .any e = true → e.on < j := by
  have hj : j < ops.size := (Array.getElem?_eq_some_iff.1 ho).1
  have := List.all_eq_true.1 h j (List.mem_range.2 hj)
  simp only [ho, Bool.and_eq_true] at this
  refine ⟨fun i want hg => ?_, fun e he hb => ?_⟩
  · have h1 := this.1
    rw [hg] at h1
    exact of_decide_eq_true h1
  have h2 := (Array.all_eq_true_iff_forall_mem.1 this.2) e he
  simpa [hb] using h2

/-- the heads are listed, the tail is not -/
def headsDone (n N : Nat) : Array Bool := Array.ofFn (n := N) fun i => decide (i.val < n)

def tailB (ops : Array Oper) (n : Nat) : Bool :=
  lexical ops && decide (n < ops.size) && Region.sinkB .any ops n && Region.chainB .any ops n && Region.lexB .any (ops.extract 0 n) &&
    Region.seqB .any ops (ops.size - n) n (headsDone n ops.size)

section
variable {P : Program} {ops : Array Oper} {C : World → Prop}

theorem extract_set (b : Array Bool) (n i : Nat) (h : i < n) : (b.setIfInBounds i true).extract 0 n = (b.extract 0 n).setIfInBounds i true := by
  apply Array.ext_getElem?
  intro j
  simp only [Array.getElem?_extract, Array.getElem?_setIfInBounds, Array.size_extract, Array.size_setIfInBounds, Nat.zero_add, Nat.sub_zero]
  by_cases hij : i = j
  · subst hij
    by_cases hb : i < b.size
    · simp [hb]
    · simp [hb]
      omega
  · simp [hij]

theorem extract_getD (b : Array Bool) (n i : Nat) (h : i < n) (d : Bool) : (b.extract 0 n).getD i d = b.getD i d := by
  simp only [Array.getD_eq_getD_getElem?, Array.getElem?_extract, Nat.zero_add, Nat.sub_zero]
  by_cases hb : i < b.size
  · rw [if_pos (by omega)]
  · rw [if_neg (by omega), Array.getElem?_eq_none (by omega)]

/-- how many of the first m are not listed -/
def un (b : Array Bool) : Nat → Nat
  | 0 => 0
  | m + 1 => un b m + (if b.getD m true = true then 0 else 1)
theorem un_set_low (b : Array Bool) (k : Nat) : ∀ m, m ≤ k → un (b.setIfInBounds k true) m = un b m
  | 0, _ => rfl
  | m + 1, h => by
    have h1 : (b.setIfInBounds k true).getD m true = b.getD m true := by
      simp only [Array.getD_eq_getD_getElem?]
      rw [Array.getElem?_setIfInBounds_ne (by omega)]
    simp only [un, h1, un_set_low b k m (by omega)]
theorem un_set (b : Array Bool) (k : Nat) : ∀ m, un b m ≤ un (b.setIfInBounds k true) m + 1
  | 0 => by simp [un]
  | m + 1 => by
    by_cases hm : m = k
    · subst hm
      simp only [un, un_set_low b m m (Nat.le_refl _)]
      split <;> split <;> omega
    · have h1 : (b.setIfInBounds k true).getD m true = b.getD m true := by
        simp only [Array.getD_eq_getD_getElem?]
        rw [Array.getElem?_setIfInBounds_ne (by omega)]
      have := un_set b k m
      simp only [un, h1]
      omega
theorem un_pos (b : Array Bool) : ∀ m, 0 < un b m → ∃ i, i < m ∧ b.getD i true = false
  | 0, h => by simp [un] at h
  | m + 1, h => by
    cases hb : b.getD m true with
    | false => exact ⟨m, by omega, hb⟩
    | true =>
      simp only [un, hb, if_true, Nat.add_zero] at h
      obtain ⟨i, hi, hq⟩ := un_pos b m h
      exact ⟨i, by omega, hq⟩
theorem un_all (b : Array Bool) : ∀ m, (∀ i, i < m → b.getD i true = false) → un b m = m
  | 0, _ => rfl
  | m + 1, h => by
    have := un_all b m (fun i hi => h i (by omega))
    simp only [un, h m (by omega), this]; rfl

theorem transfer {n : Nat} (hl : lexical ops = true) (hs : Region.sinkB .any ops n = true) (hc : Region.chainB .any ops n = true) (hn : n < ops.size)
    {Q : Act → Prop} {Q' : Exit → Act → World → Prop} {g : Nat}
    (hfin : ∀ (listed : Array Bool) (a : Act) (w : World), HeadInv .any ops n listed → (∀ i, i < n → listed.getD i true = true) → C w → Q a → wpAny P .any ops Q' g listed a w) :
    ∀ (f : Nat) (listed : Array Bool) (a : Act) (w : World), HeadInv .any ops n listed → f ≤ un listed n → C w →
      wpAnyQ P .any (ops.extract 0 n) C Q f (listed.extract 0 n) a → wpAny P .any ops Q' (f + g) listed a w := by
  -- a head that is not listed leaves one that is ready
  have first : ∀ (listed : Array Bool), HeadInv .any ops n listed → ∀ i, i < n → listed.getD i true = false → ∃ k, k < n ∧ k ∈ Region.ready .any ops listed := by
    intro listed inv i
    induction i using Nat.strongRecOn with
    | _ i ih =>
      intro hi hun
      have hio : i < ops.size := by omega
      obtain ⟨oi, hoi⟩ : ∃ oi, ops[i]? = some oi := ⟨_, Array.getElem?_eq_getElem hio⟩
      by_cases hall : ∀ e ∈ oi.after, Region.binds .any e = true → listed.getD e.on false = true
      · exact ⟨i, hi, mem_ready.2 ⟨hun, oi, hoi, hall⟩⟩
      · obtain ⟨e, he⟩ := Classical.not_forall.1 hall
        obtain ⟨he1, he2⟩ := Classical.not_forall.1 he
        obtain ⟨he3, he4⟩ := Classical.not_forall.1 he2
        have hlt := (lexical_spec hl hoi).2 e he1 he3
        have : listed.getD e.on true = false := by
          have hsz : e.on < listed.size := by rw [inv.size]; omega
          simp [hsz] at he4 ⊢
          exact he4
        exact ih e.on hlt (by omega) this
  have up : ∀ (listed : Array Bool), HeadInv .any ops n listed → ∀ i, i < n → i ∈ Region.ready .any ops listed → i ∈ Region.ready .any (ops.extract 0 n) (listed.extract 0 n) := by
    intro listed inv i hi hr
    obtain ⟨h1, oi, hoi, h3⟩ := mem_ready.1 hr
    refine mem_ready.2 ⟨by rw [extract_getD _ _ _ hi]; exact h1, oi, ?_, fun e he hb => ?_⟩
    · rw [Array.getElem?_extract, if_pos (by omega)]; simpa using hoi
    · have := (lexical_spec hl hoi).2 e he hb
      rw [extract_getD _ _ _ (by omega)]
      exact h3 e he hb
  have down : ∀ (listed : Array Bool), HeadInv .any ops n listed → Region.ready .any (ops.extract 0 n) (listed.extract 0 n) = [] → ∀ i, i < n → listed.getD i true = true := by
    intro listed inv h0 i hi
    cases hu : listed.getD i true with
    | true => rfl
    | false =>
      obtain ⟨k, hk, hr⟩ := first listed inv i hi hu
      have := up listed inv k hk hr
      rw [h0] at this
      cases this
  intro f
  induction f with
  | zero =>
    intro listed a w inv _ hC h
    rw [Nat.zero_add]
    exact hfin listed a w inv (down listed inv h.1) hC h.2
  | succ f ih =>
    intro listed a w inv hun hC h
    obtain ⟨i, hi, hu⟩ := un_pos listed n (by omega)
    rw [show f + 1 + g = (f + g) + 1 by omega]
    refine ⟨fun h0 => ?_, fun k hk => ?_⟩
    · obtain ⟨k, _, hr⟩ := first listed inv i hi hu
      rw [h0] at hr; cases hr
    · have hkn : k < n := by
        rcases Nat.lt_or_ge k n with h' | h'
        · exact h'
        · exact absurd hk (tail_waits hs hc hn inv _ i rfl hi hu k h')
      have hq := h.2 k (up listed inv k hkn hk)
      obtain ⟨_, ok, hok, _⟩ := mem_ready.1 hk
      have hgd := (lexical_spec hl hok).1
      have hq' : qOp P ops C k (wpAnyQ P .any (ops.extract 0 n) C Q f ((listed.setIfInBounds k true).extract 0 n)) a := by
        rw [extract_set _ _ _ hkn]
        unfold qOp at hq ⊢
        have e1 : (ops.extract 0 n)[k]? = some ok := by rw [Array.getElem?_extract, if_pos (by omega)]; simpa using hok
        have e2 : Region.wanted ok (yielded (ops.extract 0 n) a.tmps) = Region.wanted ok (yielded ops a.tmps) := wanted_same fun i want hg => by
          have := hgd i want hg
          simp only [yielded, Array.getElem?_extract]
          rw [if_pos (by omega), Nat.zero_add]
        simp only [e1, hok, e2] at hq ⊢
        exact hq
      have hcnt := un_set listed k n
      exact wpOp_of_qOp hC (fun a' w' hC' hK => ih _ a' w' (inv.set hk hkn) (by omega) hC' hK) hq'

theorem quiet_nil_mono {Q Q2 : Act → Prop} (hQ : ∀ a, Q a → Q2 a) (zs : Array Oper) : ∀ (l : List Oper) (a : Act), wpQuiet P zs C Q l a → wpQuiet P zs C Q2 l a
  | [], a, h => hQ a h
  | o :: l, a, h => by
    unfold wpQuiet at h ⊢
    split
    · rename_i hw
      simp only [hw, if_true] at h
      exact Oper.quiet_mono (fun a' h' => quiet_nil_mono hQ zs l a' h') h
    · rename_i hw
      simp only [hw] at h
      exact quiet_nil_mono hQ zs l _ h

/-- THE LAW, over all orders. -/
theorem any_quiet_tail {Q' : Exit → Act → World → Prop} {a : Act} {w : World} {l : List Oper} (n : Nat) (hB : tailB l.toArray n = true)
    (hC : C w.drew) (h : wpQuiet P (l.take n).toArray C (fun a' => ∀ w', C w' → wpList P l.toArray Q' (l.drop n) a' w') (l.take n) a) : wpAny P .any l.toArray Q' l.toArray.size (Array.replicate l.toArray.size false) a w.drew := by
  simp only [tailB, Bool.and_eq_true, decide_eq_true_eq] at hB
  obtain ⟨⟨⟨⟨⟨hl, hn⟩, hs⟩, hc⟩, hx⟩, hq⟩ := hB
  have hn' : n < l.length := by simpa using hn
  have htl : (l.take n).length = n := by simp; omega
  have hext : l.toArray.extract 0 n = (l.take n).toArray := by simp
  have inv0 : HeadInv .any l.toArray n (Array.replicate l.toArray.size false) :=
    ⟨by simp, fun j oj _ hl' => (by rw [getD_replicate_false] at hl'; cases hl'), fun t _ ht => getD_in (by simpa using ht) (getD_replicate_false _ _)⟩
  rw [hext] at hx
  simp only [Region.lexB, Bool.and_eq_true] at hx
  have H0 := wpAnyQ_lex (P := P) (C := C) (md := .any) hx.1 (l.take n) 0 (Array.replicate (l.take n).toArray.size false) a (by simp) (by simpa using hx.2) h
  rw [htl] at H0
  have hrep : (Array.replicate l.toArray.size false).extract 0 n = Array.replicate (l.take n).toArray.size false := by
    simp
  have := transfer (P := P) (C := C) (Q' := Q') (g := l.toArray.size - n) hl hs hc hn (Q := fun a' => ∀ w', C w' → wpList P l.toArray Q' (l.drop n) a' w') (fun listed a' w' inv hall hC' hQ => by
    have hlisted : listed = headsDone n l.toArray.size := by
      apply Array.ext
      · simp [headsDone, inv.size]
      · intro i h1 h2
        by_cases hi : i < n
        · have := hall i hi
          simp [h1] at this
          simp [headsDone, hi, this]
        · have := inv.tail i (by omega) (by rw [inv.size] at h1; exact h1)
          simp [h1] at this
          simp [headsDone, hi, this]
    have hz := wpAny_of_seq (md := .any) (Q' := Q') (l.drop n) n listed a' w' (fun j => by simp [List.getElem?_drop]) (by rw [hlisted]; simpa using hq) (hQ w' hC')
    simpa using hz) n (Array.replicate l.toArray.size false) a w.drew inv0 (by rw [un_all _ n (fun i hi => getD_in (by simpa using (by omega)) (getD_replicate_false _ _))]; omega) hC (by rw [hrep, hext]; exact H0)
  rw [show n + (l.toArray.size - n) = l.toArray.size by omega] at this
  exact this
/-- THE LAW. -/
theorem region_quiet_tail {id : Nat} {Q' : Exit → Act → World → Prop} {a : Act} {w : World} {l : List Oper} (n : Nat) (hm : P.follows .mixedOrders = true) (hB : tailB l.toArray n = true)
    (hC : C w.drew) (h : wpQuiet P (l.take n).toArray C (fun a' => ∀ w', C w' → wpList P l.toArray Q' (l.drop n) a' w') (l.take n) a) : (Code.region id l.toArray true).wp P Q' a w :=
  wp_region_any hm (any_quiet_tail n hB hC h)
/-- a whole array or struct is loaded, at any offset -/
theorem wpQuiet_load_mid {zs : Array Oper} {Q : Act → Prop} {op : Oper} {rest : List Oper} {a : Act} (hgd : op.guard = none) (ty : TypeId) (x : Operand) (ho : op.op = .load ty x)
    (b o : Nat) (hx : a.eval x = .pointer (some ⟨b, o, none⟩)) (cs : List Value) {d : TypeDesc} (hc : ∀ w', C w' → w'.rangeAt b o cs)
    (hu : P.underlying ty = some d) (hd : d.isRow = true) (hi : (P.info? ty).map (·.size) = some cs.length)
    (h : wpQuiet P zs C Q rest (a.put op.dst (.agg cs.toArray))) : wpQuiet P zs C Q (op :: rest) a := by
  unfold wpQuiet
  rw [if_pos (wanted_free hgd [] zs a.tmps)]
  refine ⟨.agg cs.toArray, fun w' hw' => ?_, h⟩
  unfold Oper.quietAt execOp
  simp only [ho, hx, Instr.loadAt, Instr.sureAddr, Sem.run_bind, Sem.run_pure, Result.andThen_ok, run_loadVar_mid w' b o ty cs d (hc w' hw') hu hd hi, Oper.quietUpon]
  trivial
/-- the same under a guard that holds -/
theorem wpQuiet_load_row {zs : Array Oper} {Q : Act → Prop} {op : Oper} {rest : List Oper} {a : Act} (hgd : Region.wanted op (yielded zs a.tmps) = true) (ty : TypeId) (x : Operand) (ho : op.op = .load ty x)
    (b o : Nat) (hx : a.eval x = .pointer (some ⟨b, o, none⟩)) (cs : List Value) {d : TypeDesc} (hc : ∀ w', C w' → w'.rangeAt b o cs)
    (hu : P.underlying ty = some d) (hd : d.isRow = true) (hi : (P.info? ty).map (·.size) = some cs.length)
    (h : wpQuiet P zs C Q rest (a.put op.dst (.agg cs.toArray))) : wpQuiet P zs C Q (op :: rest) a := by
  unfold wpQuiet
  rw [if_pos hgd]
  refine ⟨.agg cs.toArray, fun w' hw' => ?_, h⟩
  unfold Oper.quietAt execOp
  simp only [ho, hx, Instr.loadAt, Instr.sureAddr, Sem.run_bind, Sem.run_pure, Result.andThen_ok, run_loadVar_mid w' b o ty cs d (hc w' hw') hu hd hi, Oper.quietUpon]
  trivial
/-- the class of the worlds that are w after some draws -/
theorem region_drew_tail {id : Nat} {Q' : Exit → Act → World → Prop} {a : Act} {w : World} {l : List Oper} (n : Nat) (hm : P.follows .mixedOrders = true) (hB : tailB l.toArray n = true)
    (h : wpQuiet P (l.take n).toArray (fun w' => ∃ m, w' = w.drewN m) (fun a' => ∀ w', (∃ m, w' = w.drewN m) → wpList P l.toArray Q' (l.drop n) a' w') (l.take n) a) : (Code.region id l.toArray true).wp P Q' a w :=
  region_quiet_tail n hm hB ⟨1, rfl⟩ h
end
end Go.Proofs.Ytadppbjchacjiaa
