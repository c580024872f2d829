/- Requests and messages as values: what is told of them (stage 18). -/
import Derived.Test.YtloogjdojojehaaUGc
import Derived.Test.YtloogjdojojehaaUGd
import Derived.Test.YtloogjdojojehaaHG
import Derived.Test.YtloogjdojojehaaHP1
import Derived.Test.YtloogjdojojehaaG4
import Derived.Test.YtloogjdojojehaaV1
import Derived.Test.YtloogjdojojehaaHP2
namespace Go.Proofs.Ytloogjdojojehaa
open Go.RowKit
set_option linter.unusedVariables false

theorem req_cells {w : World} {v : Value} {r : ReqU RawV} (h : ReqTold w v r) : ∃ R : List Value, v = .agg R.toArray ∧ R.length = 8 ∧ R[0]? = some (.int .i64 r.client) ∧ R[1]? = some (.int .u32 (r.seq : Int)) ∧ R[2]? = some (.int .i64 r.kind) ∧ R[3]? = some (.int .u32 (r.id : Int)) ∧ VV w (.agg (R.drop 4).toArray) r.ver := by
  obtain ⟨q, rfl, hv⟩ := h
  obtain ⟨pb, cb, pn, cn, pz, cz, rfl⟩ := hv.row
  exact ⟨_, rfl, rfl, rfl, rfl, rfl, rfl, hv⟩
/-- may a request be? -/
def mayBeR (r : ReqU RawV) : Bool := decide (0 ≤ r.client) && decide (r.client < 3) && decide (1 ≤ r.kind) && decide (r.kind ≤ 5) && mayR r.ver && (if r.kind = 1 then decide (r.id = 0) else sameV r.ver noV)
theorem mayBe_early {r : ReqU RawV} {b : Bool} (hb : mayBeR r = b) (h : r.client < 0 ∨ 3 ≤ r.client ∨ r.kind < 1 ∨ 5 < r.kind ∨ mayR r.ver = false) : b = false := by
  rw [← hb]
  unfold mayBeR
  rcases h with h | h | h | h | h
  · rw [decide_eq_false (show ¬ 0 ≤ r.client by omega)]; rfl
  · rw [decide_eq_false (show ¬ r.client < 3 by omega)]; simp
  · rw [decide_eq_false (show ¬ 1 ≤ r.kind by omega)]; simp
  · rw [decide_eq_false (show ¬ r.kind ≤ 5 by omega)]; simp
  · rw [h]; simp
theorem mayBe_late {r : ReqU RawV} {b : Bool} (hb : mayBeR r = b) (h0 : 0 ≤ r.client) (h1 : r.client < 3) (h2 : 1 ≤ r.kind) (h3 : r.kind ≤ 5) (h4 : mayR r.ver = true) : (if r.kind = 1 then decide (r.id = 0) else sameV r.ver noV) = b := by
  rw [← hb]
  unfold mayBeR
  rw [decide_eq_true h0, decide_eq_true h1, decide_eq_true h2, decide_eq_true h3, h4]
  rfl
/-- are two requests the same? -/
def sameQ (a b : ReqU RawV) : Bool := decide (a.client = b.client) && decide (a.seq = b.seq) && decide (a.kind = b.kind) && decide (a.id = b.id) && sameV a.ver b.ver
theorem sameQ_self (a : ReqU RawV) : sameQ a a = true := by
  unfold sameQ
  simp [same_self]
/-- a message -/
structure MsgU where
  kind : Int
  src : Int
  dst : Int
  view : Nat
  last : Nat
  n : Int
  commit : Int
  log : List (ReqU RawV)
  client : Int
  seq : Nat
  err : Int
  ids : List Nat
  ver : RawV
  hash : List Nat
  block : ByteArray
/-- a message's cells: sixteen, the hash's, the block -/
def cellsM (m : MsgU) (vl vi : Value) (q : List Value) : List Value :=
  [.int .i64 m.kind, .int .i64 m.src, .int .i64 m.dst, .int .u32 (m.view : Int), .int .u32 (m.last : Int), .int .i64 m.n, .int .i64 m.commit, vl, .int .i64 m.client, .int .u32 (m.seq : Int), .int .i64 m.err, vi] ++ (q ++ (ints .u8 (nn m.hash) ++ [.string m.block]))
def MsgTold (w : World) (v : Value) (m : MsgU) : Prop :=
  ∃ vl vi q, v = .agg (cellsM m vl vi q).toArray ∧ (∃ p c, vl = .slice p m.log.length c) ∧ ReqsV w vl m.log ∧ (∃ p c, vi = .slice p m.ids.length c) ∧ Sl w 1 vi (rowsU .u32 m.ids) ∧ VV w (.agg q.toArray) m.ver ∧ m.hash.length = 32 ∧ Bys m.hash
theorem MsgTold.below {w w' : World} {v : Value} {m : MsgU} (h : MsgTold w v m) (hb : Below w.heap.size w w') : MsgTold w' v m := by
  obtain ⟨vl, vi, q, e, h1, h2, h3, h4, h5, h6, h7⟩ := h
  exact ⟨vl, vi, q, e, h1, h2.below hb, h3, h4.below hb, h5.below hb, h6, h7⟩
def endM2 (k : Int) : Bool := decide (0 ≤ k ∧ k ≤ 2 ∨ 10 ≤ k ∧ k ≤ 12)
/-- may a message be? -/
def msgMayR (m : MsgU) : Bool :=
  decide (1 ≤ m.kind ∧ m.kind ≤ 14) && endM2 m.src && endM2 m.dst && decide (0 ≤ m.n ∧ m.n ≤ 40) && decide (0 ≤ m.commit ∧ m.commit ≤ 40) && decide (m.log.length ≤ 40) && m.log.all mayBeR &&
    decide (0 ≤ m.client ∧ m.client < 3) && decide (0 ≤ m.err ∧ m.err ≤ 1000) && decide (m.ids.length ≤ 8) && mayR m.ver && decide (m.block.size ≤ 1000)
end Go.Proofs.Ytloogjdojojehaa
namespace Go.Proofs.Ytloogjdojojehaa
set_option linter.unusedVariables false

/-- a request as it is read: its client, number, kind, Id, and version -/
structure ReqM where
  client : Nat
  seq : Nat
  kind : Nat
  id : Nat
  ver : VerH
def noVer : VerH := ⟨0, [], []⟩
def reqMay (r : ReqM) : Bool := decide (r.client < 3) && decide (1 ≤ r.kind) && decide (r.kind ≤ 5) && (if r.kind = 1 then decide (r.id = 0) else true)
/-- what stands ahead of a request's version: client, number, kind, Id -/
def reqHead : List Nat → Except Nat ((Nat × (Nat × (Nat × Nat))) × List Nat) :=
  pairP (guardP (fixP 1) (fun c => decide (c < 3)) 1) (pairP (fixP 4) (pairP (guardP (fixP 1) (fun k => decide (1 ≤ k) && decide (k ≤ 5)) 1) (fixP 4)))
theorem head_codes : Codes reqHead (fun h => bigL h.1 1 ++ (bigL h.2.1 4 ++ (bigL h.2.2.1 1 ++ bigL h.2.2.2 4)))
    (fun h => (h.1 < 2 ^ (8 * 1) ∧ decide (h.1 < 3) = true) ∧ h.2.1 < 2 ^ (8 * 4) ∧ (h.2.2.1 < 2 ^ (8 * 1) ∧ (decide (1 ≤ h.2.2.1) && decide (h.2.2.1 ≤ 5)) = true) ∧ h.2.2.2 < 2 ^ (8 * 4)) :=
  pair_codes (guard_codes (fix_codes 1) _ 1) (pair_codes (fix_codes 4) (pair_codes (guard_codes (fix_codes 1) _ 1) (fix_codes 4)))
/-- a head, and the version behind it, if there is one -/
def reqBody (h : Nat × (Nat × (Nat × Nat))) : List Nat → Except Nat (ReqM × List Nat) :=
  mapP (fun v => (⟨h.1, h.2.1, h.2.2.1, h.2.2.2, v⟩ : ReqM)) (condP (decide (h.2.2.1 = 1)) verP noVer)
def reqTag (r : ReqM) : Nat × (Nat × (Nat × Nat)) := (r.client, r.seq, r.kind, r.id)
def reqVE (r : ReqM) : List Nat := if r.kind = 1 then verE r.ver else []
def reqVOk (r : ReqM) : Prop := if r.kind = 1 then VerOk r.ver else r.ver = noVer
theorem body_codes (h : Nat × (Nat × (Nat × Nat))) : Codes (reqBody h) reqVE (fun r => reqTag r = h ∧ reqVOk r) := by
  obtain ⟨c, q, k, i⟩ := h
  have hm := map_codes (cond_codes ver_codes (decide (k = 1)) noVer) (fun v => (⟨c, q, k, i, v⟩ : ReqM)) ReqM.ver (fun _ => rfl)
  have e : ∀ r : ReqM, reqTag r = (c, q, k, i) ↔ (⟨c, q, k, i, r.ver⟩ : ReqM) = r := fun r => by
    obtain ⟨c', q', k', i', v⟩ := r
    unfold reqTag
    simp only [Prod.mk.injEq, ReqM.mk.injEq, and_true]
    exact ⟨fun ⟨h1, h2, h3, h4⟩ => ⟨h1.symm, h2.symm, h3.symm, h4.symm⟩, fun ⟨h1, h2, h3, h4⟩ => ⟨h1.symm, h2.symm, h3.symm, h4.symm⟩⟩
  have ek : ∀ r : ReqM, reqTag r = (c, q, k, i) → r.kind = k := fun r h => by
    have := congrArg (fun z => z.2.2.1) h
    exact this
  refine { back := fun r s hr => ?_, cut := fun r j hr hj => ?_, from_ := fun s r t hs he => ?_, bys := fun r hr => ?_ }
  · have hk := ek r hr.1
    have hv := hr.2
    unfold reqVE
    unfold reqVOk at hv
    rw [hk] at hv ⊢
    have := hm.back r s ⟨by simpa using hv, (e r).1 hr.1⟩
    simp only [decide_eq_true_eq] at this
    exact this
  · have hk := ek r hr.1
    have hv := hr.2
    unfold reqVE at hj ⊢
    unfold reqVOk at hv
    rw [hk] at hv hj ⊢
    have := hm.cut r j ⟨by simpa using hv, (e r).1 hr.1⟩ (by simpa using hj)
    simp only [decide_eq_true_eq] at this
    exact this
  · have h1 := hm.from_ s r t hs he
    have ht := (e r).2 h1.1.2
    have hk := ek r ht
    refine ⟨⟨ht, ?_⟩, ?_⟩
    · unfold reqVOk
      rw [hk]
      simpa using h1.1.1
    · unfold reqVE
      rw [hk]
      simpa using h1.2
  · have hk := ek r hr.1
    have hv := hr.2
    unfold reqVE
    unfold reqVOk at hv
    rw [hk] at hv ⊢
    have := hm.bys r ⟨by simpa using hv, (e r).1 hr.1⟩
    simpa using this
def reqP : List Nat → Except Nat (ReqM × List Nat) := guardP (depP reqHead reqBody) reqMay 1
def reqE (r : ReqM) : List Nat := (bigL r.client 1 ++ (bigL r.seq 4 ++ (bigL r.kind 1 ++ bigL r.id 4))) ++ reqVE r
def ReqOkM (r : ReqM) : Prop := r.client < 3 ∧ r.seq < 4294967296 ∧ 1 ≤ r.kind ∧ r.kind ≤ 5 ∧ r.id < 4294967296 ∧ (r.kind = 1 → r.id = 0) ∧ reqVOk r
theorem req_codes : Codes reqP reqE ReqOkM := by
  refine (guard_codes (dep_codes head_codes reqTag fun a _ => body_codes a) reqMay 1).only fun r => ?_
  unfold reqMay reqTag ReqOkM
  simp only [Bool.and_eq_true, decide_eq_true_eq]
  constructor
  · rintro ⟨⟨⟨⟨h1, h2⟩, h3, ⟨h4, h5, h6⟩, h7⟩, h8⟩, h9⟩
    refine ⟨h2, by omega, h5, h6, by omega, fun hk => ?_, h8⟩
    have := h9.2
    rw [if_pos hk] at this
    exact of_decide_eq_true this
  · rintro ⟨h1, h2, h3, h4, h5, h6, h7⟩
    refine ⟨⟨⟨⟨by omega, h1⟩, by omega, ⟨by omega, h3, h4⟩, by omega⟩, h7⟩, ⟨⟨h1, h3⟩, h4⟩, ?_⟩
    split
    · rename_i hk; exact decide_eq_true (h6 hk)
    · rfl
/-! ### messages -/
structure MsgM where
  kind : Nat
  src : Nat
  dst : Nat
  view : Nat
  last : Nat
  n : Nat
  commit : Nat
  log : List ReqM
  client : Nat
  seq : Nat
  err : Nat
  ids : List Nat
  ver : VerH
  hash : List Nat
  block : List Nat
def msgT := Nat × (Nat × (Nat × (Nat × (Nat × (Nat × (Nat × (List ReqM × (Nat × (Nat × (Nat × (List Nat × (VerH × (List Nat × List Nat)))))))))))))
def msgTP : List Nat → Except Nat (msgT × List Nat) :=
  pairP (fixP 1) (pairP (fixP 1) (pairP (fixP 1) (pairP (fixP 4) (pairP (fixP 4) (pairP (fixP 1) (pairP (fixP 1) (pairP (countB reqP 40 111) (pairP (fixP 1) (pairP (fixP 4) (pairP (fixP 2) (pairP (countB (fixP 4) 8 111) (pairP verP (pairP (rawP 32) textP)))))))))))))
def msgOf (z : msgT) : MsgM := ⟨z.1, z.2.1, z.2.2.1, z.2.2.2.1, z.2.2.2.2.1, z.2.2.2.2.2.1, z.2.2.2.2.2.2.1, z.2.2.2.2.2.2.2.1, z.2.2.2.2.2.2.2.2.1, z.2.2.2.2.2.2.2.2.2.1, z.2.2.2.2.2.2.2.2.2.2.1, z.2.2.2.2.2.2.2.2.2.2.2.1, z.2.2.2.2.2.2.2.2.2.2.2.2.1, z.2.2.2.2.2.2.2.2.2.2.2.2.2.1, z.2.2.2.2.2.2.2.2.2.2.2.2.2.2⟩
def ofMsg (m : MsgM) : msgT := (m.kind, m.src, m.dst, m.view, m.last, m.n, m.commit, m.log, m.client, m.seq, m.err, m.ids, m.ver, m.hash, m.block)
def msgE (m : MsgM) : List Nat := bigL m.kind 1 ++ (bigL m.src 1 ++ (bigL m.dst 1 ++ (bigL m.view 4 ++ (bigL m.last 4 ++ (bigL m.n 1 ++ (bigL m.commit 1 ++ ((bigL m.log.length 1 ++ m.log.flatMap reqE) ++ (bigL m.client 1 ++ (bigL m.seq 4 ++ (bigL m.err 2 ++ ((bigL m.ids.length 1 ++ m.ids.flatMap (fun n => bigL n 4)) ++ (verE m.ver ++ (id m.hash ++ (putL m.block.length ++ m.block))))))))))))))
/-- what a message read must be, whether it may be or not -/
def MsgRead (m : MsgM) : Prop := m.kind < 2 ^ (8 * 1) ∧ m.src < 2 ^ (8 * 1) ∧ m.dst < 2 ^ (8 * 1) ∧ m.view < 2 ^ (8 * 4) ∧ m.last < 2 ^ (8 * 4) ∧ m.n < 2 ^ (8 * 1) ∧ m.commit < 2 ^ (8 * 1) ∧ (m.log.length ≤ 40 ∧ ∀ r ∈ m.log, ReqOkM r) ∧ m.client < 2 ^ (8 * 1) ∧ m.seq < 2 ^ (8 * 4) ∧ m.err < 2 ^ (8 * 2) ∧
  (m.ids.length ≤ 8 ∧ ∀ n ∈ m.ids, n < 2 ^ (8 * 4)) ∧ VerOk m.ver ∧ (m.hash.length = 32 ∧ Bys m.hash) ∧ (m.block.length < 18446744073709551616 ∧ Bys m.block)
theorem msgT_codes : Codes (mapP msgOf msgTP) msgE MsgRead :=
  (map_codes (pair_codes (fix_codes 1) (pair_codes (fix_codes 1) (pair_codes (fix_codes 1) (pair_codes (fix_codes 4) (pair_codes (fix_codes 4) (pair_codes (fix_codes 1) (pair_codes (fix_codes 1) (pair_codes (countB_codes req_codes 40 111 (by decide)) (pair_codes (fix_codes 1) (pair_codes (fix_codes 4) (pair_codes (fix_codes 2) (pair_codes (countB_codes (fix_codes 4) 8 111 (by decide)) (pair_codes ver_codes (pair_codes (raw_codes 32) text_codes)))))))))))))) msgOf ofMsg (fun _ => rfl)).only
    fun m => ⟨fun h => h.1, fun h => ⟨h, rfl⟩⟩
def endM (n : Nat) : Bool := decide (n ≤ 2) || (decide (10 ≤ n) && decide (n ≤ 12))
/-- may a message that was read be? (its log, its Ids and its version may be, as they were read) -/
def msgMay (m : MsgM) : Bool := decide (1 ≤ m.kind) && decide (m.kind ≤ 14) && endM m.src && endM m.dst && decide (m.n ≤ 40) && decide (m.commit ≤ 40) && decide (m.client < 3) && decide (m.err ≤ 1000) && decide (m.block.length ≤ 1000)
/-- what Decode tells -/
def decM (s : List Nat) : Except Nat MsgM := match wholeP (mapP msgOf msgTP) s with
  | .error e => .error e
  | .ok m => if msgMay m then .ok m else .error 1
def MsgOk (m : MsgM) : Prop := MsgRead m ∧ msgMay m = true
theorem dec_back {m : MsgM} (h : MsgOk m) : decM (msgE m) = .ok m := by
  unfold decM
  rw [whole_back msgT_codes h.1]
  simp only
  rw [if_pos h.2]
theorem dec_more {m : MsgM} (h : MsgOk m) {r : List Nat} (hr : r.length ≠ 0) : decM (msgE m ++ r) = .error 42 := by
  unfold decM
  rw [whole_more msgT_codes h.1 hr]
theorem dec_cut {m : MsgM} (h : MsgOk m) {j : Nat} (hj : j < (msgE m).length) : decM ((msgE m).take j) = .error 40 := by
  unfold decM
  rw [whole_cut msgT_codes h.1 hj]
theorem dec_from {s : List Nat} {m : MsgM} (hs : Bys s) (h : decM s = .ok m) : MsgOk m ∧ s = msgE m := by
  unfold decM at h
  cases e1 : wholeP (mapP msgOf msgTP) s with
  | error er => rw [e1] at h; cases h
  | ok x =>
    rw [e1] at h
    simp only at h
    split at h
    · rename_i hm
      cases h
      have h1 := whole_from msgT_codes hs e1
      exact ⟨⟨h1.1, hm⟩, h1.2⟩
    · cases h
end Go.Proofs.Ytloogjdojojehaa
namespace Go.Proofs.Ytloogjdojojehaa
open Go.RowKit
set_option linter.unusedVariables false

/-- go on with what was read -/
def thenP {α β : Type} (x : Except Nat (α × List Nat)) (k : α → List Nat → Except Nat β) : Except Nat β := match x with
  | .error e => .error e
  | .ok z => k z.1 z.2
theorem then_ok {α β : Type} (a : α) (r : List Nat) (k : α → List Nat → Except Nat β) : thenP (.ok (a, r)) k = k a r := rfl
theorem then_err {α β : Type} (e : Nat) (k : α → List Nat → Except Nat β) : thenP (.error e) k = .error e := rfl
theorem then_then {α β γ : Type} (x : Except Nat (α × List Nat)) (k : α → List Nat → Except Nat (β × List Nat)) (k' : β → List Nat → Except Nat γ) : thenP (thenP x k) k' = thenP x fun a r => thenP (k a r) k' := by
  cases x <;> rfl
theorem then_if {α β : Type} (c : Prop) [Decidable c] (x y : Except Nat (α × List Nat)) (k : α → List Nat → Except Nat β) : thenP (if c then x else y) k = if c then thenP x k else thenP y k := by
  split <;> rfl
theorem pair_then {α β : Type} (p : List Nat → Except Nat (α × List Nat)) (q : List Nat → Except Nat (β × List Nat)) (s : List Nat) : pairP p q s = thenP (p s) fun a r => thenP (q r) fun b t => .ok ((a, b), t) := by
  unfold pairP
  rcases p s with e | ⟨a, r⟩
  · rfl
  · simp only [then_ok]
    rcases q r with e | ⟨b, t⟩ <;> rfl
theorem map_then {α β : Type} (f : α → β) (p : List Nat → Except Nat (α × List Nat)) (s : List Nat) : mapP f p s = thenP (p s) fun a r => .ok (f a, r) := by
  unfold mapP
  rcases p s with e | ⟨a, r⟩ <;> rfl
theorem dep_then {α β : Type} (p : List Nat → Except Nat (α × List Nat)) (q : α → List Nat → Except Nat (β × List Nat)) (s : List Nat) : depP p q s = thenP (p s) q := by
  unfold depP
  rcases p s with e | ⟨a, r⟩ <;> rfl
theorem guard_then {α : Type} (p : List Nat → Except Nat (α × List Nat)) (c : α → Bool) (er : Nat) (s : List Nat) : guardP p c er s = thenP (p s) fun a r => if c a = true then .ok (a, r) else .error er := by
  unfold guardP
  rcases p s with e | ⟨a, r⟩ <;> rfl
/-- a request, as it was read, as a value -/
def reqU (r : ReqM) : ReqU RawV := ⟨(r.client : Int), r.seq, (r.kind : Int), r.id, rawOf r.ver⟩
theorem raw_noVer : rawOf noVer = noV := rfl
/-- a request is read so -/
def getN (s : List Nat) : Except Nat (ReqM × List Nat) :=
  thenP (fixP 1 s) fun c s1 => if c < 3 then
    thenP (fixP 4 s1) fun q s2 => thenP (fixP 1 s2) fun k s3 => if 1 ≤ k ∧ k ≤ 5 then
      thenP (fixP 4 s3) fun i s4 => thenP (if k = 1 then verP s4 else .ok (noVer, s4)) fun v s5 =>
        if k = 1 → i = 0 then .ok (⟨c, q, k, i, v⟩, s5) else .error 1
    else .error 1
  else .error 1
theorem reqP_is (s : List Nat) : reqP s = getN s := by
  unfold reqP getN
  rw [guard_then, dep_then]
  unfold reqHead reqBody
  simp only [pair_then, guard_then, map_then, then_then, then_ok, condP]
  rcases fixP 1 s with e | ⟨c, s1⟩
  · rfl
  simp only [then_ok]
  by_cases hc : c < 3
  · rw [if_pos (decide_eq_true hc), if_pos hc, then_ok]
    rcases fixP 4 s1 with e | ⟨q, s2⟩
    · rfl
    simp only [then_ok]
    rcases fixP 1 s2 with e | ⟨k, s3⟩
    · rfl
    simp only [then_ok]
    have hfin : ∀ (i : Nat) (v : VerH) (t : List Nat), (if reqMay ⟨c, q, k, i, v⟩ = true then (.ok (⟨c, q, k, i, v⟩, t) : Except Nat (ReqM × List Nat)) else .error 1) = if 1 ≤ k ∧ k ≤ 5 then (if k = 1 → i = 0 then .ok (⟨c, q, k, i, v⟩, t) else .error 1) else .error 1 := fun i v t => by
      by_cases hk : 1 ≤ k ∧ k ≤ 5
      · rw [if_pos hk]
        have e : reqMay ⟨c, q, k, i, v⟩ = true ↔ (k = 1 → i = 0) := by
          unfold reqMay
          dsimp only
          rw [decide_eq_true hc, decide_eq_true hk.1, decide_eq_true hk.2]
          by_cases h1 : k = 1
          · rw [if_pos h1]; simp [h1]
          · rw [if_neg h1]; simp [h1]
        by_cases h : k = 1 → i = 0
        · rw [if_pos h, if_pos (e.2 h)]
        · rw [if_neg h, if_neg (fun h' => h (e.1 h'))]
      · rw [if_neg hk, if_neg]
        intro h
        unfold reqMay at h
        simp only [Bool.and_eq_true, decide_eq_true_eq] at h
        exact hk ⟨h.1.1.2, h.1.2⟩
    by_cases hk : 1 ≤ k ∧ k ≤ 5
    · have hb : (decide (1 ≤ k) && decide (k ≤ 5)) = true := by rw [decide_eq_true hk.1, decide_eq_true hk.2]; rfl
      rw [if_pos hb, if_pos hk, then_ok]
      rcases fixP 4 s3 with e | ⟨i, s4⟩
      · rfl
      rw [then_ok, then_ok]
      by_cases h1 : k = 1
      · rw [if_pos (decide_eq_true h1), if_pos h1]
        rcases verP s4 with e | ⟨v, s5⟩
        · rfl
        rw [then_ok, then_ok, hfin, if_pos hk]
      · rw [if_neg (by simp [h1]), if_neg h1, then_ok, then_ok, hfin, if_pos hk]
    · have hb : ¬ (decide (1 ≤ k) && decide (k ≤ 5)) = true := fun h => by
        simp only [Bool.and_eq_true, decide_eq_true_eq] at h
        exact hk h
      rw [if_neg hb, if_neg hk, then_err]
  · rw [if_neg (by simp [hc]), if_neg hc, then_err]
/-- a message is read so -/
def msgK (s : List Nat) : Except Nat (MsgM × List Nat) :=
  thenP (fixP 1 s) fun a0 s0 => thenP (fixP 1 s0) fun a1 s1 => thenP (fixP 1 s1) fun a2 s2 => thenP (fixP 4 s2) fun a3 s3 => thenP (fixP 4 s3) fun a4 s4 => thenP (fixP 1 s4) fun a5 s5 => thenP (fixP 1 s5) fun a6 s6 =>
  thenP (countB reqP 40 111 s6) fun a7 s7 => thenP (fixP 1 s7) fun a8 s8 => thenP (fixP 4 s8) fun a9 s9 => thenP (fixP 2 s9) fun a10 s10 => thenP (countB (fixP 4) 8 111 s10) fun a11 s11 => thenP (verP s11) fun a12 s12 =>
  thenP (rawP 32 s12) fun a13 s13 => thenP (textP s13) fun a14 s14 => .ok (⟨a0, a1, a2, a3, a4, a5, a6, a7, a8, a9, a10, a11, a12, a13, a14⟩, s14)
theorem msgK_is (s : List Nat) : mapP msgOf msgTP s = msgK s := by
  have h : mapP msgOf msgTP s = mapP (fun z : Nat × Nat × Nat × Nat × Nat × Nat × Nat × List ReqM × Nat × Nat × Nat × List Nat × VerH × List Nat × List Nat => (⟨z.1, z.2.1, z.2.2.1, z.2.2.2.1, z.2.2.2.2.1, z.2.2.2.2.2.1, z.2.2.2.2.2.2.1, z.2.2.2.2.2.2.2.1, z.2.2.2.2.2.2.2.2.1, z.2.2.2.2.2.2.2.2.2.1, z.2.2.2.2.2.2.2.2.2.2.1, z.2.2.2.2.2.2.2.2.2.2.2.1, z.2.2.2.2.2.2.2.2.2.2.2.2.1, z.2.2.2.2.2.2.2.2.2.2.2.2.2.1, z.2.2.2.2.2.2.2.2.2.2.2.2.2.2⟩ : MsgM)) (pairP (fixP 1) (pairP (fixP 1) (pairP (fixP 1) (pairP (fixP 4) (pairP (fixP 4) (pairP (fixP 1) (pairP (fixP 1) (pairP (countB reqP 40 111) (pairP (fixP 1) (pairP (fixP 4) (pairP (fixP 2) (pairP (countB (fixP 4) 8 111) (pairP verP (pairP (rawP 32) textP)))))))))))))) s := rfl
  rw [h]
  unfold msgK
  simp only [map_then, pair_then, then_then, then_ok]
/-- a message, as it was read, as a value -/
def msgU (m : MsgM) : MsgU := ⟨m.kind, m.src, m.dst, m.view, m.last, m.n, m.commit, m.log.map reqU, m.client, m.seq, m.err, m.ids, rawOf m.ver, m.hash, tx m.block⟩
theorem count_then {α : Type} (p : List Nat → Except Nat (α × List Nat)) (most er : Nat) (s : List Nat) : countB p most er s = thenP (fixP 1 s) fun n r => if n ≤ most then manyP p n r else .error er := by
  unfold countB
  rw [dep_then, guard_then, then_then]
  congr 1
  funext n r
  rw [then_if]
  simp only [decide_eq_true_eq, then_ok, then_err]
/-- the whole of the bytes, as a message -/
theorem decM_is (s : List Nat) : decM s = thenP (msgK s) fun m r => if r.length = 0 then (if msgMay m then .ok m else .error 1) else .error 42 := by
  unfold decM wholeP
  rw [msgK_is]
  rcases msgK s with e | ⟨m, r⟩
  · rfl
  simp only [then_ok]
  by_cases hr : r.length = 0
  · simp [hr]
  · simp [hr]
theorem nz_reqP : NoZero reqP := nz_guard (nz_dep (nz_pair (nz_guard (nz_fix 1) _ 1 (by decide)) (nz_pair (nz_fix 4) (nz_pair (nz_guard (nz_fix 1) _ 1 (by decide)) (nz_fix 4)))) fun a s e he => by
  unfold reqBody at he
  rw [map_then] at he
  unfold condP at he
  split at he
  · cases h : verP s with
    | error er => rw [h] at he; cases he; exact nz_ver _ _ h
    | ok x => rw [h] at he; cases he
  · cases he) _ 1 (by decide)
/-! ### what was read, as a value -/
theorem sameV_eq {a b : RawV} (h : sameV a b = true) : a = b := by
  obtain ⟨h1, h2, h3, h4⟩ := same_iff.1 h
  obtain ⟨i, bl, ns, zs⟩ := a
  obtain ⟨i', bl', ns', zs'⟩ := b
  dsimp only at h1 h2 h3 h4
  rw [h1, h2, h3, h4]
theorem may_raw {v : VerH} (h : VerOk v) : mayR (rawOf v) = true := h.2.2.2
theorem ver_raw {r : ReqM} (h : reqVOk r) : (rawOf r.ver).ok ∧ mayR (rawOf r.ver) = true ∧ (r.kind ≠ 1 → rawOf r.ver = noV) := by
  unfold reqVOk at h
  split at h
  · rename_i hk
    exact ⟨(raw_ok h).1, may_raw h, fun h' => absurd hk h'⟩
  · rw [h]
    exact ⟨noV_ok, by decide, fun _ => rfl⟩
theorem verS_raw {r : ReqM} (h : reqVOk r) : VerS (rawOf r.ver) := by
  unfold reqVOk at h
  split at h
  · have q := raw_ok h
    exact ⟨q.1, Nat.le_trans q.2.1 (by decide), Nat.le_trans q.2.2.1 (by decide), Nat.le_trans q.2.2.2 (by decide)⟩
  · rw [h]
    exact ⟨noV_ok, by decide, by decide, by decide⟩
theorem verS_of {v : VerH} (h : VerOk v) : VerS (rawOf v) := by
  have q := raw_ok h
  exact ⟨q.1, Nat.le_trans q.2.1 (by decide), Nat.le_trans q.2.2.1 (by decide), Nat.le_trans q.2.2.2 (by decide)⟩
/-- whether a request that was read may be -/
theorem may_got {c q k i : Nat} {v : VerH} (hc : c < 3) (hk : 1 ≤ k ∧ k ≤ 5) (hv : if k = 1 then VerOk v else v = noVer) : mayBeR (reqU ⟨c, q, k, i, v⟩) = decide (k = 1 → i = 0) := by
  have hv' : reqVOk ⟨c, q, k, i, v⟩ := hv
  obtain ⟨_, h2, h3⟩ := ver_raw hv'
  unfold mayBeR reqU
  dsimp only at h2 h3 ⊢
  rw [h2, decide_eq_true (show (0 : Int) ≤ (c : Int) by omega), decide_eq_true (show (c : Int) < 3 by omega), decide_eq_true (show (1 : Int) ≤ (k : Int) by omega), decide_eq_true (show (k : Int) ≤ 5 by omega)]
  by_cases h1 : k = 1
  · subst h1
    simp
  · rw [if_neg (by omega), h3 h1, same_self]
    simp [h1]
theorem reqU_may {r : ReqM} (h : ReqOkM r) : mayBeR (reqU r) = true := by
  obtain ⟨h1, h2, h3, h4, h5, h6, h7⟩ := h
  have := may_got (c := r.client) (q := r.seq) (k := r.kind) (i := r.id) (v := r.ver) h1 ⟨h3, h4⟩ h7
  rw [show reqU ⟨r.client, r.seq, r.kind, r.id, r.ver⟩ = reqU r from rfl] at this
  rw [this]
  exact decide_eq_true h6
/-- a request that may be is one that can be read -/
theorem req_of {a : ReqU RawV} (h : mayBeR a = true) (hk : a.ver.ok) (hs : a.seq < 4294967296) (hi : a.id < 4294967296) : ∃ r, ReqOkM r ∧ reqU r = a := by
  obtain ⟨c, q, k, i, v⟩ := a
  unfold mayBeR at h
  simp only [Bool.and_eq_true, decide_eq_true_eq] at h hs hi hk
  obtain ⟨⟨⟨⟨⟨h0, h1⟩, h2⟩, h3⟩, h4⟩, h5⟩ := h
  have hr := raw_ver hk h4
  have hvo := ver_okR hk h4
  refine ⟨⟨c.toNat, q, k.toNat, i, v.ver⟩, ⟨by show c.toNat < 3; omega, hs, by show 1 ≤ k.toNat; omega, by show k.toNat ≤ 5; omega, hi, fun hk1 => ?_, ?_⟩, ?_⟩
  · have hk1' : k = 1 := by have : k.toNat = 1 := hk1; omega
    rw [if_pos hk1'] at h5
    exact of_decide_eq_true h5
  · unfold reqVOk
    dsimp only
    split
    · exact hvo.1
    · rename_i hk1
      rw [if_neg (by omega)] at h5
      have e := sameV_eq h5
      rw [e]
      rfl
  · unfold reqU
    dsimp only
    rw [hr, Int.toNat_of_nonneg h0, Int.toNat_of_nonneg (by omega)]
end Go.Proofs.Ytloogjdojojehaa
namespace Go.Proofs.Ytloogjdojojehaa
open Go.RowKit
set_option linter.unusedVariables false

set_option maxRecDepth 100000 in
set_option maxHeartbeats 2000000 in
theorem mr_MayBe (r : ReqU RawV) (v : Value) (b : Bool) (w : World) (hb : mayBeR r = b) (hv : ReqTold w v r) (ha : VerS r.ver) :
    Calls Try.prog 15 #[v] w fun e w' => e = .returned (.bool b) ∧ Below w.heap.size w w' := by
  obtain ⟨R, rfl, hRl, h0, _, h2, h3, hV⟩ := req_cells hv
  obtain ⟨B0, hB0⟩ : ∃ B0, w.heap.size = B0 := ⟨_, rfl⟩
  have k0 := Blk.newAt w B0 hB0 40 (c := R.toArray) R rfl
  have kb := (Below.refl w.heap.size w).alloc (Nat.le_refl _) (.cells R.toArray 40)
  have c0 := k0.cellOf h0
  have c2 := k0.cellOf h2
  have c3 := k0.cellOf h3
  have K0 := Lib.hid k0
  have KB := Lib.hid kb
  have hd4 : (R.drop 4).length = 4 := by rw [List.length_drop, hRl]
  have HD4 := Lib.hid hd4
  have HB := Lib.hid (fun h => mayBe_early hb h)
  have HL := Lib.hid (fun h0 h1 h2 h3 h4 => mayBe_late hb h0 h1 h2 h3 h4)
  have HM := Lib.hid (fun (bb : Bool) (h : mayR r.ver = bb) => hr_May r.ver (.agg (R.drop 4).toArray) bb (w.alloc (.cells R.toArray 40)) h (hV.below kb) ha.1.2.2.1 ha.2.1 ha.2.2.1 ha.2.2.2)
  have HSM := Lib.hid (fun (wx : World) (h : Below w.heap.size w wx) => hr_Same r.ver noV (.agg (R.drop 4).toArray) _ (sameV r.ver noV) wx rfl (hV.below h) (VV.none _) ha.1 noV_ok (Nat.le_trans ha.2.1 (by decide)) (Nat.le_trans ha.2.2.1 (by decide)) (Nat.le_trans ha.2.2.2 (by decide)))
  have HCL : Hid (∀ wx, Blk wx B0 40 R → ∀ i x, (R.drop 4)[i]? = some x → wx.cell? ((⟨B0, 4, none⟩ : Addr).add i) = some x) := Lib.hid fun wx hB i x hx => by
    rw [Addr.add_mid, hB.cell]
    rw [List.getElem?_drop] at hx
    exact hx
  have HV1 := Lib.hid (HCL.out _ K0.out)
  clear k0 kb h0 h2 h3 hv hV hd4 hb
  by_cases t1 : r.client < 0
  · obtain rfl := HB.out (.inl t1)
    generalize r.client = C at *
    go_enter Try.func15, Try.ntmps15
    go_wp2_with (first | (go_skip) | fail)
    go_ret
    exact ⟨rfl, by have h := KB.out; rw [hB0] at h; exact h⟩
  by_cases t2 : 3 ≤ r.client
  · obtain rfl := HB.out (.inr (.inl t2))
    generalize r.client = C at *
    go_enter Try.func15, Try.ntmps15
    go_wp2_with (first | (go_skip) | fail)
    go_ret
    exact ⟨rfl, by have h := KB.out; rw [hB0] at h; exact h⟩
  by_cases t3 : r.kind < 1
  · obtain rfl := HB.out (.inr (.inr (.inl t3)))
    generalize r.client = C at *
    generalize r.kind = D at *
    go_enter Try.func15, Try.ntmps15
    go_wp2_with (first | (go_skip) | fail)
    go_ret
    exact ⟨rfl, by have h := KB.out; rw [hB0] at h; exact h⟩
  by_cases t4 : 5 < r.kind
  · obtain rfl := HB.out (.inr (.inr (.inr (.inl t4))))
    generalize r.client = C at *
    generalize r.kind = D at *
    go_enter Try.func15, Try.ntmps15
    go_wp2_with (first | (go_skip) | fail)
    go_ret
    exact ⟨rfl, by have h := KB.out; rw [hB0] at h; exact h⟩
  have HT : Hid (0 ≤ r.client ∧ r.client < 3 ∧ 1 ≤ r.kind ∧ r.kind ≤ 5) := Lib.hid ⟨by omega, by omega, by omega, by omega⟩
  cases hm : mayR r.ver with
  | false =>
    obtain rfl := HB.out (.inr (.inr (.inr (.inr hm))))
    have HM1 := Lib.hid (HM.out false hm)
    go_enter Try.func15, Try.ntmps15
    go_wp2_with (first | (go_skip) | (refine wpList_load_addrV rfl 30 _ rfl ⟨B0, 4, none⟩ rfl (R.drop 4) HV1.out Try.underlying30 rfl (by rw [size_ver, HD4.out]) ?_))
    (with_reducible refine HM1.out.mono ?_)
    rintro e w2 ⟨rfl, b2⟩
    have B2 := Lib.hid (KB.out.trans (b2.mono KB.out.size))
    clear b2
    go_wp2_with (first | (go_skip) | fail)
    go_ret
    exact ⟨rfl, B2.out⟩
  | true =>
    have HM1 := Lib.hid (HM.out true hm)
    have hl := HL.out HT.out.1 HT.out.2.1 HT.out.2.2.1 HT.out.2.2.2 hm
    go_enter Try.func15, Try.ntmps15
    go_wp2_with (first | (go_skip) | (refine wpList_load_addrV rfl 30 _ rfl ⟨B0, 4, none⟩ rfl (R.drop 4) HV1.out Try.underlying30 rfl (by rw [size_ver, HD4.out]) ?_))
    (with_reducible refine HM1.out.mono ?_)
    rintro e w2 ⟨rfl, b2⟩
    have B2 := Lib.hid (KB.out.trans (b2.mono KB.out.size))
    have K2 := Lib.hid (K0.out.below b2 K0.out.lt)
    have HV2 := Lib.hid (HCL.out _ K2.out)
    have e2 := (K2.out.cell 2).trans ((K0.out.cell 2).symm.trans c2)
    have e3 := (K2.out.cell 3).trans ((K0.out.cell 3).symm.trans c3)
    clear b2 c0 c2 c3 hm
    by_cases hk : r.kind = 1
    · rw [if_pos hk] at hl
      have hl2 : b = decide (((r.id : Nat) : Int) = 0) := by rw [← hl]; simp
      rw [hk] at e2
      subst hl2
      clear hl hk
      go_wp2_with (first | (go_skip) | fail)
      go_ret
      exact ⟨by simp; rw [Bool.eq_iff_iff, beq_iff_eq, decide_eq_true_eq]; omega, B2.out⟩
    · rw [if_neg hk] at hl
      rw [hl] at HSM
      have hk2 : (r.kind == 1) = false := by simpa using hk
      generalize r.kind = D at *
      go_wp2_with (first | (go_skip) | (refine wpList_load_addrV rfl 30 _ rfl ⟨B0, 4, none⟩ rfl (R.drop 4) HV2.out Try.underlying30 rfl (by rw [size_ver, HD4.out]) ?_))
      refine (HSM.out _ B2.out).mono ?_
      rintro e w3 ⟨rfl, b3⟩
      have B3 := Lib.hid (B2.out.trans (b3.mono B2.out.size))
      clear b3
      go_wp2
      go_ret
      exact ⟨rfl, B3.out⟩
end Go.Proofs.Ytloogjdojojehaa
namespace Go.Proofs.Ytloogjdojojehaa
open Go.RowKit
set_option linter.unusedVariables false

/-- an end by a panic with an error -/
def DiedW (er : Nat) : Ending := .panicked [{ v := .iface 24 (.int .i64 (er : Int)), recovered := false }]
theorem w_need_ok (er : Int) (w : World) : Calls Try.prog 28 #[.bool true, .int .i64 er] w fun e w' => e = .returned (.tuple #[]) ∧ w' = w := by
  go_enter Try.func28, Try.ntmps28
  go_wp2
  go_end0
  exact ⟨rfl, rfl⟩
theorem w_need_no (er : Nat) (w : World) : Calls Try.prog 28 #[.bool false, .int .i64 (er : Int)] w fun e w' => e = DiedW er ∧ w' = w := by
  go_enter Try.func28, Try.ntmps28
  go_wp2
  exact ⟨rfl, rfl, rfl⟩
/-! ### blocks that are newer -/
theorem grown_setRowN {w w2 : World} {o : Option Nat} (h : w.grownBy w2 o) {b : Nat} (hb : w.heap.size ≤ b) (cs : Array Value) : w.grownBy (w2.setRow b cs) o := by
  obtain ⟨h1, h2, h3, h4, h5⟩ := h
  exact ⟨h1, h2, h3, by simpa using h4, fun k hk hne => by rw [setRow_other w2 b k cs (by omega)]; exact h5 k hk hne⟩
theorem grown_setCellN {w w2 : World} {o : Option Nat} (h : w.grownBy w2 o) {b : Nat} (hb : w.heap.size ≤ b) (j : Nat) (x : Value) : w.grownBy (w2.setCell ⟨b, j, none⟩ x) o := by
  have h' := grown_setCell w2 ⟨b, j, none⟩ x
  exact ⟨h'.os.trans h.os, h'.tape.trans h.tape, h'.output.trans h.output, Nat.le_trans h.size h'.size, fun k hk hne => (h'.block k (Nat.lt_of_lt_of_le hk h.size) (fun e => absurd (show k = b by simpa using e) (by omega))).trans (h.block k hk hne)⟩
theorem grown_setCellsN {w : World} {o : Option Nat} {b : Nat} (hb : w.heap.size ≤ b) : ∀ (y : List Value) (j : Nat) (w2 : World), w.grownBy w2 o → w.grownBy (w2.setCells b j y) o
  | [], _, _, h => h
  | x :: y, j, w2, h => grown_setCellsN hb y (j + 1) _ (grown_setCellN h hb j x)
theorem grown_allocN {w w2 : World} {o : Option Nat} (h : w.grownBy w2 o) (x : Obj) : w.grownBy (w2.alloc x) o :=
  h.trans ((grown_below ((Below.refl _ _).alloc (Nat.le_refl _) x)).but o)
theorem grown_belowN {w w2 w3 : World} {o : Option Nat} (h : w.grownBy w2 o) (hb : Below w2.heap.size w2 w3) : w.grownBy w3 o := h.trans ((grown_below hb).but o)
/-- what is left for the reader -/
def Left (w : World) (B : Nat) (s : List Nat) : Prop := Blk w B 75 [.string (tx s)]
theorem Left.cell {w : World} {B : Nat} {s : List Nat} (h : Left w B s) : w.cell? ⟨B, 0, none⟩ = some (.string (tx s)) := by
  have := Blk.cell h 0
  simpa using this
theorem Left.free {w : World} {B : Nat} {s : List Nat} (h : Left w B s) : w.frozen? ⟨B, 0, none⟩ = false := Blk.free h 0
theorem Left.put {w : World} {B : Nat} {s : List Nat} (h : Left w B s) (t : List Nat) : Left (w.setCell ⟨B, 0, none⟩ (.string (tx t))) B t := Blk.set h 0 (.string (tx t))
theorem Left.lt {w : World} {B : Nat} {s : List Nat} (h : Left w B s) : B < w.heap.size := Blk.lt h
theorem Left.keep {w w' : World} {B : Nat} {s : List Nat} (h : Left w B s) (hb : Below w.heap.size w w') : Left w' B s := Blk.below h hb (Blk.lt h)
theorem Left.other {w : World} {B : Nat} {s : List Nat} (h : Left w B s) {b : Nat} (hb : b ≠ B) (j : Nat) (x : Value) : Left (w.setCell ⟨b, j, none⟩ x) B s := Blk.other h (a := ⟨b, j, none⟩) (fun e => hb e) x
theorem Left.rowOther {w : World} {B : Nat} {s : List Nat} (h : Left w B s) {b : Nat} (hb : b ≠ B) (cs : Array Value) : Left (w.setRow b cs) B s := Blk.rowOther h (fun e => hb e.symm) cs
theorem Left.cellsOther {w : World} {B : Nat} {s : List Nat} (h : Left w B s) {b : Nat} (hb : b ≠ B) (y : List Value) (o : Nat) : Left (w.setCells b o y) B s := setCells_otherB (fun e => hb e.symm) y o w h
/-- what a step comes to: a value and what is left behind it, or a panic with the error; it turns the reader alone, and makes what is new -/
def StP {α : Type} (x : Except Nat (α × List Nat)) (R : α → World → Value → Prop) (w : World) (B : Nat) (e : Ending) (w' : World) : Prop :=
  w.grownBy w' (some B) ∧ (∀ a r, x = .ok (a, r) → ∃ v, e = .returned v ∧ R a w' v ∧ Left w' B r) ∧ (∀ er, x = .error er → e = DiedW er)
section
variable {α : Type} {R : α → World → Value → Prop} {w w' : World} {B : Nat}
theorem StP.ok {a : α} {r : List Nat} {v : Value} (hg : w.grownBy w' (some B)) (hv : R a w' v) (hB : Left w' B r) : StP (.ok (a, r)) R w B (.returned v) w' :=
  ⟨hg, fun a' r' h => (by cases h; exact ⟨v, rfl, hv, hB⟩), fun er h => (by cases h)⟩
theorem StP.no {er : Nat} (hg : w.grownBy w' (some B)) : StP (.error er : Except Nat (α × List Nat)) R w B (DiedW er) w' :=
  ⟨hg, fun a' r' h => (by cases h), fun er' h => (by cases h; rfl)⟩
theorem grown_left (hg : w.heap.size ≤ w.heap.size) (x : Value) : w.grownBy (w.setCell ⟨B, 0, none⟩ x) (some B) := grown_setCell w ⟨B, 0, none⟩ x
end
/-! ### take -/
set_option maxRecDepth 100000 in
theorem w_take64_ok (B : Nat) (n : Int) (s r : List Nat) (w : World) (hB : Left w B s) :
    Calls Try.prog 63 #[.pointer (some ⟨B, 0, none⟩), .int .u64 n, .string (tx r), .int .i64 0] w fun e w' => e = .returned (.int .u64 n) ∧ w' = w.setCell ⟨B, 0, none⟩ (.string (tx r)) := by
  have c0 := hB.cell
  have f0 := hB.free
  have HM := Lib.hid w_need_ok
  clear hB
  generalize tx r = R at *
  generalize tx s = S at *
  go_enter Try.func63, Try.ntmps63
  go_wp2_with fail
  refine (HM.out _ _).mono ?_
  rintro e w2 ⟨rfl, rfl⟩
  go_wp2
  go_ret
  exact ⟨rfl, rfl⟩
set_option maxRecDepth 100000 in
theorem w_take64_no (B : Nat) (n : Int) (r : ByteArray) (er : Nat) (w : World) (he : er ≠ 0) :
    Calls Try.prog 63 #[.pointer (some ⟨B, 0, none⟩), .int .u64 n, .string r, .int .i64 (er : Int)] w fun e w' => e = DiedW er ∧ w' = w := by
  have e0 : ((er : Int) == 0) = false := by simp; omega
  have HM := Lib.hid w_need_no
  clear he
  go_enter Try.func63, Try.ntmps63
  go_wp2_with fail
  refine (HM.out _ _).mono ?_
  rintro e w2 ⟨rfl, rfl⟩
  exact ⟨rfl, rfl, rfl⟩
set_option maxRecDepth 100000 in
theorem w_takeS_ok (B : Nat) (z : ByteArray) (s r : List Nat) (w : World) (hB : Left w B s) :
    Calls Try.prog 72 #[.pointer (some ⟨B, 0, none⟩), .string z, .string (tx r), .int .i64 0] w fun e w' => e = .returned (.string z) ∧ w' = w.setCell ⟨B, 0, none⟩ (.string (tx r)) := by
  have c0 := hB.cell
  have f0 := hB.free
  have HM := Lib.hid w_need_ok
  clear hB
  generalize tx r = R at *
  generalize tx s = S at *
  go_enter Try.func72, Try.ntmps72
  go_wp2_with fail
  refine (HM.out _ _).mono ?_
  rintro e w2 ⟨rfl, rfl⟩
  go_wp2
  go_ret
  exact ⟨rfl, rfl⟩
set_option maxRecDepth 100000 in
theorem w_takeS_no (B : Nat) (z : ByteArray) (r : ByteArray) (er : Nat) (w : World) (he : er ≠ 0) :
    Calls Try.prog 72 #[.pointer (some ⟨B, 0, none⟩), .string z, .string r, .int .i64 (er : Int)] w fun e w' => e = DiedW er ∧ w' = w := by
  have e0 : ((er : Int) == 0) = false := by simp; omega
  have HM := Lib.hid w_need_no
  clear he
  go_enter Try.func72, Try.ntmps72
  go_wp2_with fail
  refine (HM.out _ _).mono ?_
  rintro e w2 ⟨rfl, rfl⟩
  exact ⟨rfl, rfl, rfl⟩
/-! ### numbers -/
/-- a number of so many bytes, as it is read -/
theorem w_fix_ok {s : List Nat} {k n : Nat} {t : List Nat} (hs : Bys s) (hl : s.length ≤ 65536) (h1 : 1 ≤ k) (h8 : k ≤ 8) (h : fixP k s = .ok (n, t)) (w : World) :
    Calls Try.prog 62 #[.string (tx s), .int .i64 (k : Int)] w fun e w' => e = .returned (.tuple #[.int .u64 (n : Int), .string (tx t), .int .i64 0]) ∧ Below w.heap.size w w' := by
  unfold fixP at h
  split at h
  · cases h
  · rename_i hlt
    cases h
    exact v_Fixed (tx s) k w h1 h8 (by rw [tx_size]; exact hl) (fixN s k) 0 (tx (s.drop k)) (.inl ⟨by rw [tx_size]; omega, by rw [sl_tx hs], by rw [tail_tx, sl_tx hs], rfl⟩)
theorem w_fix_no {s : List Nat} {k er : Nat} (hs : Bys s) (hl : s.length ≤ 65536) (h1 : 1 ≤ k) (h8 : k ≤ 8) (h : fixP k s = .error er) (w : World) :
    Calls Try.prog 62 #[.string (tx s), .int .i64 (k : Int)] w fun e w' => e = .returned (.tuple #[.int .u64 ((0 : Nat) : Int), .string ⟨#[]⟩, .int .i64 (er : Int)]) ∧ Below w.heap.size w w' := by
  unfold fixP at h
  split at h
  · rename_i hlt
    cases h
    exact v_Fixed (tx s) k w h1 h8 (by rw [tx_size]; exact hl) 0 40 ⟨#[]⟩ (.inr ⟨by rw [tx_size]; omega, rfl, rfl, rfl⟩)
  · cases h
theorem fix_facts {s : List Nat} {k n : Nat} {t : List Nat} (hs : Bys s) (h : fixP k s = .ok (n, t)) : n < 2 ^ (8 * k) ∧ Bys t ∧ t.length ≤ s.length := by
  unfold fixP at h
  split at h
  · cases h
  · cases h
    exact ⟨fix_lt hs k, hs.drop _, by rw [List.length_drop]; omega⟩
theorem fix4 {k n : Nat} (hk : k ≤ 4) (h : n < 2 ^ (8 * k)) : n < 4294967296 := Nat.lt_of_lt_of_le h (Nat.le_trans (Nat.pow_le_pow_right (show 0 < 2 by decide) (show 8 * k ≤ 32 by omega)) (by decide))
set_option maxRecDepth 100000 in
set_option maxHeartbeats 1000000 in
theorem w_numI (B k : Nat) (s : List Nat) (w : World) (hB : Left w B s) (hs : Bys s) (hl : s.length ≤ 65536) (h1 : 1 ≤ k) (h4 : k ≤ 4) :
    Calls Try.prog 43 #[.pointer (some ⟨B, 0, none⟩), .int .i64 (k : Int)] w (StP (fixP k s) (fun n _ v => v = .int .i64 (n : Int)) w B) := by
  cases hx : fixP k s with
  | error er =>
    have HF := Lib.hid (w_fix_no hs hl h1 (by omega) hx)
    have HT := Lib.hid (fun wx => w_take64_no B ((0 : Nat) : Int) ⟨#[]⟩ er wx (nz_fix k s er hx))
    have c0 := hB.cell
    clear hB hs hl h1 h4 hx
    generalize tx s = S at *
    generalize ((0 : Nat) : Int) = Z at *
    go_enter Try.func43, Try.ntmps43
    go_wp2_with fail
    refine (HF.out _).mono ?_
    rintro e w2 ⟨rfl, b2⟩
    have B2 := Lib.hid b2
    clear b2 c0
    go_wp2_with fail
    refine (HT.out _).mono ?_
    rintro e w3 ⟨rfl, rfl⟩
    exact ⟨rfl, StP.no ((grown_below B2.out).but (some B))⟩
  | ok x =>
    obtain ⟨n, t⟩ := x
    have HF := Lib.hid (w_fix_ok hs hl h1 (by omega) hx)
    have HT := Lib.hid (fun wx (h : Left wx B s) => w_take64_ok B (n : Int) s t wx h)
    have hn := fix4 h4 (fix_facts hs hx).1
    have g1 : (n : Int) < 4294967296 := by omega
    have c0 := hB.cell
    have HB := Lib.hid hB
    clear hB hs hl h1 h4 hx hn
    obtain ⟨S, hS⟩ : ∃ S, tx s = S := ⟨_, rfl⟩
    obtain ⟨T, hT⟩ : ∃ T, tx t = T := ⟨_, rfl⟩
    rw [hS] at c0 HF
    rw [hT] at HF HT
    have HTT := Lib.hid hT
    clear hS hT
    go_enter Try.func43, Try.ntmps43
    go_wp2_with fail
    refine (HF.out _).mono ?_
    rintro e w2 ⟨rfl, b2⟩
    have B2 := Lib.hid b2
    have L2 := Lib.hid (HB.out.keep b2)
    clear b2 c0
    go_wp2_with fail
    refine (HT.out _ L2.out).mono ?_
    rintro e w3 ⟨rfl, rfl⟩
    have L3 := Lib.hid (L2.out.put t)
    rw [HTT.out] at L3
    have G3 := Lib.hid (((grown_below B2.out).but (some B)).trans (grown_setCell w2 ⟨B, 0, none⟩ (.string T)))
    go_wp2
    go_ret
    exact StP.ok G3.out rfl L3.out
set_option maxRecDepth 100000 in
set_option maxHeartbeats 1000000 in
theorem w_numU (B k : Nat) (s : List Nat) (w : World) (hB : Left w B s) (hs : Bys s) (hl : s.length ≤ 65536) (h1 : 1 ≤ k) (h4 : k ≤ 4) :
    Calls Try.prog 44 #[.pointer (some ⟨B, 0, none⟩), .int .i64 (k : Int)] w (StP (fixP k s) (fun n _ v => v = .int .u32 (n : Int)) w B) := by
  cases hx : fixP k s with
  | error er =>
    have HF := Lib.hid (w_fix_no hs hl h1 (by omega) hx)
    have HT := Lib.hid (fun wx => w_take64_no B ((0 : Nat) : Int) ⟨#[]⟩ er wx (nz_fix k s er hx))
    have c0 := hB.cell
    clear hB hs hl h1 h4 hx
    generalize tx s = S at *
    generalize ((0 : Nat) : Int) = Z at *
    go_enter Try.func44, Try.ntmps44
    go_wp2_with fail
    refine (HF.out _).mono ?_
    rintro e w2 ⟨rfl, b2⟩
    have B2 := Lib.hid b2
    clear b2 c0
    go_wp2_with fail
    refine (HT.out _).mono ?_
    rintro e w3 ⟨rfl, rfl⟩
    exact ⟨rfl, StP.no ((grown_below B2.out).but (some B))⟩
  | ok x =>
    obtain ⟨n, t⟩ := x
    have HF := Lib.hid (w_fix_ok hs hl h1 (by omega) hx)
    have HT := Lib.hid (fun wx (h : Left wx B s) => w_take64_ok B (n : Int) s t wx h)
    have hn := fix4 h4 (fix_facts hs hx).1
    have g1 : (n : Int) < 4294967296 := by omega
    have c0 := hB.cell
    have HB := Lib.hid hB
    clear hB hs hl h1 h4 hx hn
    obtain ⟨S, hS⟩ : ∃ S, tx s = S := ⟨_, rfl⟩
    obtain ⟨T, hT⟩ : ∃ T, tx t = T := ⟨_, rfl⟩
    rw [hS] at c0 HF
    rw [hT] at HF HT
    have HTT := Lib.hid hT
    clear hS hT
    go_enter Try.func44, Try.ntmps44
    go_wp2_with fail
    refine (HF.out _).mono ?_
    rintro e w2 ⟨rfl, b2⟩
    have B2 := Lib.hid b2
    have L2 := Lib.hid (HB.out.keep b2)
    clear b2 c0
    go_wp2_with fail
    refine (HT.out _ L2.out).mono ?_
    rintro e w3 ⟨rfl, rfl⟩
    have L3 := Lib.hid (L2.out.put t)
    rw [HTT.out] at L3
    have G3 := Lib.hid (((grown_below B2.out).but (some B)).trans (grown_setCell w2 ⟨B, 0, none⟩ (.string T)))
    go_wp2
    go_ret
    exact StP.ok G3.out rfl L3.out
set_option maxRecDepth 100000 in
set_option maxHeartbeats 1000000 in
theorem w_numE (B k : Nat) (s : List Nat) (w : World) (hB : Left w B s) (hs : Bys s) (hl : s.length ≤ 65536) (h1 : 1 ≤ k) (h4 : k ≤ 4) :
    Calls Try.prog 69 #[.pointer (some ⟨B, 0, none⟩), .int .i64 (k : Int)] w (StP (fixP k s) (fun n _ v => v = .int .i64 (n : Int)) w B) := by
  cases hx : fixP k s with
  | error er =>
    have HF := Lib.hid (w_fix_no hs hl h1 (by omega) hx)
    have HT := Lib.hid (fun wx => w_take64_no B ((0 : Nat) : Int) ⟨#[]⟩ er wx (nz_fix k s er hx))
    have c0 := hB.cell
    clear hB hs hl h1 h4 hx
    generalize tx s = S at *
    generalize ((0 : Nat) : Int) = Z at *
    go_enter Try.func69, Try.ntmps69
    go_wp2_with fail
    refine (HF.out _).mono ?_
    rintro e w2 ⟨rfl, b2⟩
    have B2 := Lib.hid b2
    clear b2 c0
    go_wp2_with fail
    refine (HT.out _).mono ?_
    rintro e w3 ⟨rfl, rfl⟩
    exact ⟨rfl, StP.no ((grown_below B2.out).but (some B))⟩
  | ok x =>
    obtain ⟨n, t⟩ := x
    have HF := Lib.hid (w_fix_ok hs hl h1 (by omega) hx)
    have HT := Lib.hid (fun wx (h : Left wx B s) => w_take64_ok B (n : Int) s t wx h)
    have hn := fix4 h4 (fix_facts hs hx).1
    have g1 : (n : Int) < 4294967296 := by omega
    have c0 := hB.cell
    have HB := Lib.hid hB
    clear hB hs hl h1 h4 hx hn
    obtain ⟨S, hS⟩ : ∃ S, tx s = S := ⟨_, rfl⟩
    obtain ⟨T, hT⟩ : ∃ T, tx t = T := ⟨_, rfl⟩
    rw [hS] at c0 HF
    rw [hT] at HF HT
    have HTT := Lib.hid hT
    clear hS hT
    go_enter Try.func69, Try.ntmps69
    go_wp2_with fail
    refine (HF.out _).mono ?_
    rintro e w2 ⟨rfl, b2⟩
    have B2 := Lib.hid b2
    have L2 := Lib.hid (HB.out.keep b2)
    clear b2 c0
    go_wp2_with fail
    refine (HT.out _ L2.out).mono ?_
    rintro e w3 ⟨rfl, rfl⟩
    have L3 := Lib.hid (L2.out.put t)
    rw [HTT.out] at L3
    have G3 := Lib.hid (((grown_below B2.out).but (some B)).trans (grown_setCell w2 ⟨B, 0, none⟩ (.string T)))
    go_wp2
    go_ret
    exact StP.ok G3.out rfl L3.out
set_option maxRecDepth 100000 in
theorem w_id (B : Nat) (s : List Nat) (w : World) (hB : Left w B s) (hs : Bys s) (hl : s.length ≤ 65536) :
    Calls Try.prog 45 #[.pointer (some ⟨B, 0, none⟩)] w (StP (fixP 4 s) (fun n _ v => v = .int .u32 (n : Int)) w B) := by
  have HN : Hid (Calls Try.prog 44 #[.pointer (some ⟨B, 0, none⟩), .int .i64 4] w (StP (fixP 4 s) (fun n _ v => v = .int .u32 (n : Int)) w B)) := Lib.hid (w_numU B 4 s w hB hs hl (by decide) (by decide))
  clear hB hs hl
  cases hx : fixP 4 s with
  | error er =>
    go_enter Try.func45, Try.ntmps45
    go_wp2_with fail
    refine HN.out.mono ?_
    rintro e w2 ⟨hg, hok, hno⟩
    obtain rfl := hno er hx
    exact ⟨rfl, StP.no hg⟩
  | ok x =>
    obtain ⟨n, t⟩ := x
    go_enter Try.func45, Try.ntmps45
    go_wp2_with fail
    refine HN.out.mono ?_
    rintro e w2 ⟨hg, hok, hno⟩
    have HG := Lib.hid hg
    obtain ⟨v, rfl, rfl, hL⟩ := hok n t hx
    have HL := Lib.hid hL
    clear hok hno hg hL hx HN
    go_wp2
    go_ret
    exact StP.ok HG.out rfl HL.out
/-! ### texts -/
theorem text_facts {s x t : List Nat} (hs : Bys s) (h : textP s = .ok (x, t)) : Bys x ∧ Bys t ∧ x.length ≤ s.length ∧ t.length ≤ s.length := by
  have hf := text_codes.from_ s x t hs h
  have hr := text_codes.rest hs h
  have hl := congrArg List.length hf.2
  simp only [List.length_append] at hl
  exact ⟨hf.1.2, hr, by omega, by omega⟩
theorem nz_text : NoZero textP := fun s e he => by
  rw [read_textP] at he
  split at he
  · rename_i h
    cases he
    exact h
  · cases he
set_option maxRecDepth 100000 in
set_option maxHeartbeats 1000000 in
theorem w_text (B : Nat) (s : List Nat) (w : World) (hB : Left w B s) (hs : Bys s) (hl : s.length ≤ 65536) :
    Calls Try.prog 55 #[.pointer (some ⟨B, 0, none⟩)] w (StP (textP s) (fun x _ v => v = .string (tx x)) w B) := by
  have HF := Lib.hid (fun wx => v_Read (tx s) wx (by rw [tx_size]; exact hl) (readL s).1 (readL s).2.1 (readL s).2.2 _ _ (by rw [sl_tx hs]) rfl rfl)
  have c0 := hB.cell
  have HB := Lib.hid hB
  by_cases h0 : (readL s).2.2 = 0
  · have hx : textP s = .ok ((readL s).1, (readL s).2.1) := by rw [read_textP, if_neg (by simpa using h0)]
    rw [hx]
    rw [h0] at HF
    have HT := Lib.hid (fun wx (h : Left wx B s) => w_takeS_ok B (tx (readL s).1) s (readL s).2.1 wx h)
    clear hB hs hl h0 hx
    generalize (readL s).1 = x at *
    generalize (readL s).2.1 = t at *
    obtain ⟨S, hS⟩ : ∃ S, tx s = S := ⟨_, rfl⟩
    obtain ⟨T, hT⟩ : ∃ T, tx t = T := ⟨_, rfl⟩
    obtain ⟨X, hX⟩ : ∃ X, tx x = X := ⟨_, rfl⟩
    rw [hS] at c0 HF
    rw [hT] at HF HT
    rw [hX] at HF HT
    have HTT := Lib.hid hT
    have HXX := Lib.hid hX
    clear hS hT hX
    go_enter Try.func55, Try.ntmps55
    go_wp2_with fail
    refine (HF.out _).mono ?_
    rintro e w2 ⟨rfl, b2⟩
    have B2 := Lib.hid b2
    have L2 := Lib.hid (HB.out.keep b2)
    clear b2 c0
    go_wp2_with fail
    refine (HT.out _ L2.out).mono ?_
    rintro e w3 ⟨rfl, rfl⟩
    have L3 := Lib.hid (L2.out.put t)
    rw [HTT.out] at L3
    have G3 := Lib.hid (((grown_below B2.out).but (some B)).trans (grown_setCell w2 ⟨B, 0, none⟩ (.string T)))
    go_wp2
    go_ret
    exact StP.ok G3.out (congrArg Value.string HXX.out.symm) L3.out
  · have hx : textP s = .error (readL s).2.2 := by rw [read_textP, if_pos h0]
    rw [hx]
    have HT := Lib.hid (fun wx => w_takeS_no B (tx (readL s).1) (tx (readL s).2.1) (readL s).2.2 wx h0)
    clear hB hs hl h0 hx HB
    generalize tx (readL s).1 = x at *
    generalize tx (readL s).2.1 = t at *
    generalize (readL s).2.2 = er at *
    generalize tx s = S at *
    go_enter Try.func55, Try.ntmps55
    go_wp2_with fail
    refine (HF.out _).mono ?_
    rintro e w2 ⟨rfl, b2⟩
    have B2 := Lib.hid b2
    clear b2 c0
    go_wp2_with fail
    refine (HT.out _).mono ?_
    rintro e w3 ⟨rfl, rfl⟩
    exact ⟨rfl, StP.no ((grown_below B2.out).but (some B))⟩
end Go.Proofs.Ytloogjdojojehaa
