/- The vault, by plain lists: what an op does, what requests come to, each once; over any kind of versions (stage 17). -/
import Derived.Test.YtogonbgelaehhaaG1
import Derived.Test.YtogonbgelaehhaaHG
import Derived.Test.YtogonbgelaehhaaJ1
import Derived.Test.YtogonbgelaehhaaZ0
import Derived.Test.YtogonbgelaehhaaG4
import Derived.Test.YtogonbgelaehhaaG3
import Derived.BigQuiet
import Derived.Test.YtogonbgelaehhaaMxt
import Derived.IntWalk
namespace Go.Proofs.Ytogonbgelaehhaa
set_option linter.unusedVariables false

/-- a reply: an error's number, Ids, a version -/
structure RepU (α : Type) where
  err : Nat
  ids : List Nat
  ver : α
section
variable {α : Type} (idOf : α → Nat) (may : α → Bool) (d : α)
def wrongU (e : Nat) : RepU α := ⟨e, [], d⟩
def hasU (l : List α) (i : Nat) : Bool := l.any fun v => decide (idOf v = i)
/-- the versions behind an op, and its reply -/
def doU (l : List α) (kind : Int) (i : Nat) (v : α) : List α × RepU α :=
  if kind = 1 then (if may v then (if hasU idOf l (idOf v) then (l, wrongU d 4) else if 8 ≤ l.length then (l, wrongU d 2) else (l ++ [v], ⟨0, [], d⟩)) else (l, wrongU d 1))
  else if kind = 2 then (if hasU idOf l i then (l.eraseP (fun v => decide (idOf v = i)), ⟨0, [], d⟩) else (l, wrongU d 3))
  else if kind = 3 then (l.drop (l.length - i), ⟨0, (l.take (l.length - i)).map idOf, d⟩)
  else if kind = 4 then (l, ⟨0, l.map idOf, d⟩)
  else if kind = 5 then (match l.find? (fun v => decide (idOf v = i)) with | some x => (l, ⟨0, [], x⟩) | none => (l, wrongU d 3))
  else (l, wrongU d 180)
/-- what a state's versions are: each may be, none has another one's Id, no more than may be -/
structure VersU (l : List α) : Prop where
  each : ∀ v ∈ l, may v = true
  once : (l.map idOf).Nodup
  few : l.length ≤ 8
theorem vers_nil : VersU idOf may ([] : List α) := ⟨fun v h => (by cases h), List.nodup_nil, by simp⟩
theorem has_iff {l : List α} {i : Nat} : hasU idOf l i = true ↔ i ∈ l.map idOf := by
  unfold hasU
  simp only [List.any_eq_true, decide_eq_true_eq, List.mem_map]
theorem do_vers {l : List α} (h : VersU idOf may l) (kind : Int) (i : Nat) (v : α) : VersU idOf may (doU idOf may d l kind i v).1 := by
  unfold doU
  by_cases k1 : kind = 1
  · rw [if_pos k1]
    by_cases hm : may v = true
    · rw [if_pos hm]
      by_cases ht : hasU idOf l (idOf v) = true
      · rw [if_pos ht]; exact h
      · rw [if_neg ht]
        by_cases h8 : 8 ≤ l.length
        · rw [if_pos h8]; exact h
        · rw [if_neg h8]
          refine ⟨fun x hx => ?_, ?_, by simp; omega⟩
          · rcases List.mem_append.1 hx with hx | hx
            · exact h.each x hx
            · rw [List.mem_singleton.1 hx]; exact hm
          · show ((l ++ [v]).map idOf).Nodup
            rw [List.map_append]
            refine List.nodup_append.2 ⟨h.once, by simp, ?_⟩
            intro a ha b hb e
            rw [List.map_singleton, List.mem_singleton] at hb
            subst hb
            subst e
            exact ht ((has_iff idOf).2 ha)
    · rw [if_neg hm]; exact h
  rw [if_neg k1]
  by_cases k2 : kind = 2
  · rw [if_pos k2]
    split
    · refine ⟨fun x hx => h.each x (List.mem_of_mem_eraseP hx), ?_, ?_⟩
      · exact List.Sublist.nodup (List.Sublist.map _ List.eraseP_sublist) h.once
      · exact Nat.le_trans (List.Sublist.length_le List.eraseP_sublist) h.few
    · exact h
  rw [if_neg k2]
  by_cases k3 : kind = 3
  · rw [if_pos k3]
    refine ⟨fun x hx => h.each x (List.mem_of_mem_drop hx), ?_, ?_⟩
    · exact List.Sublist.nodup (List.Sublist.map _ (List.drop_sublist _ _)) h.once
    · have := h.few
      simp only [List.length_drop]
      omega
  rw [if_neg k3]
  by_cases k4 : kind = 4
  · rw [if_pos k4]; exact h
  rw [if_neg k4]
  by_cases k5 : kind = 5
  · rw [if_pos k5]
    split <;> exact h
  · rw [if_neg k5]; exact h
/-- an error: nothing is changed, nothing else is told -/
theorem do_err {l : List α} {kind : Int} {i : Nat} {v : α} (h : (doU idOf may d l kind i v).2.err ≠ 0) : (doU idOf may d l kind i v).1 = l ∧ (doU idOf may d l kind i v).2.ids = [] ∧ (doU idOf may d l kind i v).2.ver = d := by
  unfold doU at h ⊢
  by_cases k1 : kind = 1
  · rw [if_pos k1] at h ⊢
    by_cases hm : may v = true
    · rw [if_pos hm] at h ⊢
      by_cases ht : hasU idOf l (idOf v) = true
      · rw [if_pos ht]; exact ⟨rfl, rfl, rfl⟩
      · rw [if_neg ht] at h ⊢
        by_cases h8 : 8 ≤ l.length
        · rw [if_pos h8]; exact ⟨rfl, rfl, rfl⟩
        · rw [if_neg h8] at h; exact absurd rfl h
    · rw [if_neg hm]; exact ⟨rfl, rfl, rfl⟩
  rw [if_neg k1] at h ⊢
  by_cases k2 : kind = 2
  · rw [if_pos k2] at h ⊢
    by_cases ht : hasU idOf l i = true
    · rw [if_pos ht] at h; exact absurd rfl h
    · rw [if_neg ht]; exact ⟨rfl, rfl, rfl⟩
  rw [if_neg k2] at h ⊢
  by_cases k3 : kind = 3
  · rw [if_pos k3] at h; exact absurd rfl h
  rw [if_neg k3] at h ⊢
  by_cases k4 : kind = 4
  · rw [if_pos k4] at h; exact absurd rfl h
  rw [if_neg k4] at h ⊢
  by_cases k5 : kind = 5
  · rw [if_pos k5] at h ⊢
    cases hf : l.find? (fun v => decide (idOf v = i)) with
    | some x => rw [hf] at h; exact absurd rfl h
    | none => exact ⟨rfl, rfl, rfl⟩
  · rw [if_neg k5]; exact ⟨rfl, rfl, rfl⟩
/-! ### requests -/
structure StU (α : Type) where
  vers : List α
  seqs : List Nat
  last : List (RepU α)
structure ReqU (α : Type) where
  client : Int
  seq : Nat
  kind : Int
  id : Nat
  ver : α
def stU0 : StU α := ⟨[], [0, 0, 0], [wrongU d 0, wrongU d 0, wrongU d 0]⟩
def applyU (s : StU α) (r : ReqU α) : StU α × RepU α :=
  if r.client < 0 ∨ 3 ≤ r.client ∨ r.seq = 0 then (s, wrongU d 170)
  else if r.seq = s.seqs.getD r.client.toNat 0 then (s, s.last.getD r.client.toNat (wrongU d 0))
  else if r.seq < s.seqs.getD r.client.toNat 0 then (s, wrongU d 171)
  else (⟨(doU idOf may d s.vers r.kind r.id r.ver).1, s.seqs.set r.client.toNat r.seq, s.last.set r.client.toNat (doU idOf may d s.vers r.kind r.id r.ver).2⟩, (doU idOf may d s.vers r.kind r.id r.ver).2)
structure StOk (s : StU α) : Prop where
  vers : VersU idOf may s.vers
  seqs : s.seqs.length = 3
  last : s.last.length = 3
theorem st_ok0 : StOk idOf may (stU0 d) := ⟨vers_nil idOf may, rfl, rfl⟩
theorem apply_ok {s : StU α} (h : StOk idOf may s) (r : ReqU α) : StOk idOf may (applyU idOf may d s r).1 := by
  unfold applyU
  split
  · exact h
  · split
    · exact h
    · split
      · exact h
      · exact ⟨do_vers idOf may d h.vers _ _ _, by simp [h.seqs], by simp [h.last]⟩
/-- a request that comes again changes nothing, and is answered alike -/
theorem apply_twice {s : StU α} (h : StOk idOf may s) (r : ReqU α) : applyU idOf may d (applyU idOf may d s r).1 r = ((applyU idOf may d s r).1, (applyU idOf may d s r).2) := by
  by_cases h1 : r.client < 0 ∨ 3 ≤ r.client ∨ r.seq = 0
  · have e : ∀ s : StU α, applyU idOf may d s r = (s, wrongU d 170) := fun s => by unfold applyU; rw [if_pos h1]
    rw [e, e]
  · by_cases h2 : r.seq = s.seqs.getD r.client.toNat 0
    · have e : applyU idOf may d s r = (s, s.last.getD r.client.toNat (wrongU d 0)) := by unfold applyU; rw [if_neg h1, if_pos h2]
      rw [e]
      simp only
      exact e
    · by_cases h3 : r.seq < s.seqs.getD r.client.toNat 0
      · have e : applyU idOf may d s r = (s, wrongU d 171) := by unfold applyU; rw [if_neg h1, if_neg h2, if_pos h3]
        rw [e]
        simp only
        exact e
      · have hc : r.client.toNat < 3 := by omega
        have e : applyU idOf may d s r = (⟨(doU idOf may d s.vers r.kind r.id r.ver).1, s.seqs.set r.client.toNat r.seq, s.last.set r.client.toNat (doU idOf may d s.vers r.kind r.id r.ver).2⟩, (doU idOf may d s.vers r.kind r.id r.ver).2) := by
          unfold applyU; rw [if_neg h1, if_neg h2, if_neg h3]
        rw [e]
        simp only
        have g1 : (s.seqs.set r.client.toNat r.seq).getD r.client.toNat 0 = r.seq := by
          rw [List.getD_eq_getElem?_getD, List.getElem?_set_self (by rw [h.seqs]; exact hc)]; rfl
        have g2 : (s.last.set r.client.toNat (doU idOf may d s.vers r.kind r.id r.ver).2).getD r.client.toNat (wrongU d 0) = (doU idOf may d s.vers r.kind r.id r.ver).2 := by
          rw [List.getD_eq_getElem?_getD, List.getElem?_set_self (by rw [h.last]; exact hc)]; rfl
        unfold applyU
        rw [if_neg h1]
        simp only
        rw [g1, g2, if_pos rfl]
/-- its number is that client's last one then, unless it was over, or no client's -/
theorem apply_seq {s : StU α} (h : StOk idOf may s) {r : ReqU α} (h1 : ¬ (r.client < 0 ∨ 3 ≤ r.client ∨ r.seq = 0)) (h2 : ¬ r.seq < s.seqs.getD r.client.toNat 0) : (applyU idOf may d s r).1.seqs.getD r.client.toNat 0 = r.seq := by
  have hc : r.client.toNat < 3 := by omega
  unfold applyU
  rw [if_neg h1]
  by_cases h3 : r.seq = s.seqs.getD r.client.toNat 0
  · rw [if_pos h3]; exact h3.symm
  · rw [if_neg h3, if_neg h2]
    simp only
    rw [List.getD_eq_getElem?_getD, List.getElem?_set_self (by rw [h.seqs]; exact hc)]
    rfl
/-- all requests, in order -/
def allU (s : StU α) : List (ReqU α) → StU α × List (RepU α)
  | [] => (s, [])
  | r :: l => ((allU (applyU idOf may d s r).1 l).1, (applyU idOf may d s r).2 :: (allU (applyU idOf may d s r).1 l).2)
theorem all_ok {s : StU α} (h : StOk idOf may s) : ∀ l, StOk idOf may (allU idOf may d s l).1
  | [] => h
  | r :: l => all_ok (apply_ok idOf may d h r) l
theorem all_len (s : StU α) : ∀ l, (allU idOf may d s l).2.length = l.length
  | [] => rfl
  | r :: l => by rw [allU, List.length_cons, List.length_cons, all_len _ l]
theorem all_parts (s : StU α) : ∀ a b, allU idOf may d s (a ++ b) = ((allU idOf may d (allU idOf may d s a).1 b).1, (allU idOf may d s a).2 ++ (allU idOf may d (allU idOf may d s a).1 b).2)
  | [], b => rfl
  | r :: a, b => by
    rw [List.cons_append, allU, allU, all_parts _ a b]
    rfl
theorem all_snoc (s : StU α) (a : List (ReqU α)) (r : ReqU α) : allU idOf may d s (a ++ [r]) = ((applyU idOf may d (allU idOf may d s a).1 r).1, (allU idOf may d s a).2 ++ [(applyU idOf may d (allU idOf may d s a).1 r).2]) := by
  rw [all_parts]
  rfl
end
/-! ### live blocks -/
def liveStep (acc : List (List Nat)) (h : List Nat) : List (List Nat) := if h ∈ acc then acc else acc ++ [h]
def liveU (l : List (List Nat)) : List (List Nat) := l.foldl liveStep []
theorem live_step_nodup {acc : List (List Nat)} (h : acc.Nodup) (x : List Nat) : (liveStep acc x).Nodup := by
  unfold liveStep
  split
  · exact h
  · rename_i hx
    refine List.nodup_append.2 ⟨h, by simp, ?_⟩
    intro a ha b hb e
    rw [List.mem_singleton] at hb
    subst hb
    subst e
    exact hx ha
theorem live_nodup (l : List (List Nat)) : (liveU l).Nodup := by
  have : ∀ (l : List (List Nat)) (acc : List (List Nat)), acc.Nodup → (l.foldl liveStep acc).Nodup := fun l => by
    induction l with
    | nil => exact fun acc h => h
    | cons x l ih => exact fun acc h => ih _ (live_step_nodup h x)
  exact this l [] List.nodup_nil
theorem live_snoc (l : List (List Nat)) (x : List Nat) : liveU (l ++ [x]) = liveStep (liveU l) x := by unfold liveU; rw [List.foldl_append]; rfl
end Go.Proofs.Ytogonbgelaehhaa
namespace Go.Proofs.Ytogonbgelaehhaa
open Go.RowKit
set_option linter.unusedVariables false

/-- rows that tell these versions -/
def TellVs (w : World) (rows : List (List Value)) (l : List RawV) : Prop := rows.length = l.length ∧ ∀ i, i < l.length → ∃ r, rows[i]? = some r ∧ VV w (.agg r.toArray) (l.getD i noV)
theorem TellVs.below {w w' : World} {rows : List (List Value)} {l : List RawV} (h : TellVs w rows l) (hb : Below w.heap.size w w') : TellVs w' rows l := by
  refine ⟨h.1, fun i hi => ?_⟩
  obtain ⟨r, h1, h2⟩ := h.2 i hi
  exact ⟨r, h1, h2.below hb⟩
theorem TellVs.nil (w : World) : TellVs w [] [] := ⟨rfl, fun i h => by simp at h⟩
theorem TellVs.app {w : World} {r1 r2 : List (List Value)} {l1 l2 : List RawV} (h1 : TellVs w r1 l1) (h2 : TellVs w r2 l2) : TellVs w (r1 ++ r2) (l1 ++ l2) := by
  refine ⟨by rw [List.length_append, List.length_append, h1.1, h2.1], fun i hi => ?_⟩
  by_cases hl : i < l1.length
  · obtain ⟨r, e1, e2⟩ := h1.2 i hl
    refine ⟨r, by rw [List.getElem?_append_left (by rw [h1.1]; exact hl)]; exact e1, ?_⟩
    rw [List.getD_eq_getElem?_getD, List.getElem?_append_left hl, ← List.getD_eq_getElem?_getD]
    exact e2
  · rw [List.length_append] at hi
    obtain ⟨r, e1, e2⟩ := h2.2 (i - l1.length) (by omega)
    refine ⟨r, by rw [List.getElem?_append_right (by rw [h1.1]; omega), h1.1]; exact e1, ?_⟩
    rw [List.getD_eq_getElem?_getD, List.getElem?_append_right (by omega), ← List.getD_eq_getElem?_getD]
    exact e2
theorem TellVs.one {w : World} {r : List Value} {a : RawV} (h : VV w (.agg r.toArray) a) : TellVs w [r] [a] := ⟨rfl, fun i hi => by
  have : i = 0 := by simpa using hi
  subst this
  exact ⟨r, rfl, h⟩⟩
theorem TellVs.take {w : World} {rows : List (List Value)} {l : List RawV} (h : TellVs w rows l) (n : Nat) : TellVs w (rows.take n) (l.take n) := by
  refine ⟨by rw [List.length_take, List.length_take, h.1], fun i hi => ?_⟩
  rw [List.length_take] at hi
  obtain ⟨r, e1, e2⟩ := h.2 i (by omega)
  refine ⟨r, by rw [List.getElem?_take_of_lt (by omega)]; exact e1, ?_⟩
  rw [List.getD_eq_getElem?_getD, List.getElem?_take_of_lt (by omega), ← List.getD_eq_getElem?_getD]
  exact e2
theorem TellVs.drop {w : World} {rows : List (List Value)} {l : List RawV} (h : TellVs w rows l) (n : Nat) : TellVs w (rows.drop n) (l.drop n) := by
  refine ⟨by rw [List.length_drop, List.length_drop, h.1], fun i hi => ?_⟩
  rw [List.length_drop] at hi
  obtain ⟨r, e1, e2⟩ := h.2 (n + i) (by omega)
  refine ⟨r, by rw [List.getElem?_drop]; exact e1, ?_⟩
  rw [List.getD_eq_getElem?_getD, List.getElem?_drop, ← List.getD_eq_getElem?_getD]
  exact e2
/-- nil, or a slice of memory -/
def NilOk (v : Value) : Prop := v = .slice none 0 0 ∨ ∃ ad n c, v = .slice (some ad) n c ∧ n ≤ c
theorem NilOk.nil {v : Value} (h : NilOk v) : v = .slice none 0 0 ∨ ∃ ad n c, v = .slice (some ad) n c := by
  rcases h with h | ⟨ad, n, c, h, _⟩
  · exact .inl h
  · exact .inr ⟨ad, n, c, h⟩
/-- the slice value tells these versions -/
def VsV (w : World) (v : Value) (l : List RawV) : Prop := (∃ rows, Sl w 4 v rows ∧ TellVs w rows l) ∧ NilOk v
theorem VsV.below {w w' : World} {v : Value} {l : List RawV} (h : VsV w v l) (hb : Below w.heap.size w w') : VsV w' v l := by
  obtain ⟨⟨rows, h1, h2⟩, h3⟩ := h
  exact ⟨⟨rows, h1.below hb, h2.below hb⟩, h3⟩
theorem VsV.nil (w : World) : VsV w (.slice none 0 0) [] := ⟨⟨[], Sl.none 4, TellVs.nil w⟩, .inl rfl⟩
theorem VsV.isSlice {w : World} {v : Value} {l : List RawV} (h : VsV w v l) : ∃ p c, v = .slice p l.length c := by
  obtain ⟨⟨rows, h1, h2⟩, _⟩ := h
  obtain ⟨p, c, e⟩ := h1.isSlice
  exact ⟨p, c, by rw [e, h2.1]⟩
/-- a version in its place -/
theorem VsV.at {w : World} {p : Option Addr} {n c : Nat} {l : List RawV} (h : VsV w (.slice p n c) l) {i : Nat} (hi : i < l.length) :
    ∃ (a : Addr) (r : List Value), p = some a ∧ a.block < w.heap.size ∧ VV w (.agg r.toArray) (l.getD i noV) ∧ r.length = 4 ∧ ∀ j x, r[j]? = some x → w.cell? ((a.add (i * 4)).add j) = some x := by
  obtain ⟨⟨rows, h1, h2⟩, _⟩ := h
  obtain ⟨r, e1, e2⟩ := h2.2 i hi
  obtain ⟨hk, p', c', e, hc⟩ := h1
  cases e
  obtain ⟨a, q1, q2, q3⟩ := hc i r e1
  exact ⟨a, r, q1, q2, e2, hk r (List.mem_of_getElem? e1), fun j x hx => by rw [Deep.add_add]; exact q3 j x hx⟩
theorem VsV.id_at {w : World} {p : Option Addr} {n c : Nat} {l : List RawV} (h : VsV w (.slice p n c) l) {i : Nat} (hi : i < l.length) :
    ∃ a : Addr, p = some a ∧ w.cell? (a.add (i * 4)) = some (.int .u32 ((l.getD i noV).id : Int)) := by
  obtain ⟨a, r, q1, _, ⟨vb, vn, vz, e, _⟩, _, q3⟩ := h.at hi
  have e' : r = cellsV (l.getD i noV).id vb vn vz := by
    have := congrArg (fun v => match v with | Value.agg c => c.toList | _ => []) e
    simpa using this
  subst e'
  refine ⟨a, q1, ?_⟩
  have := q3 0 _ rfl
  rwa [Deep.add_add, Nat.add_zero] at this
theorem VsV.taken {w : World} {a : Addr} {n c : Nat} {l : List RawV} (h : VsV w (.slice (some a) n c) l) {m : Nat} (hm : m ≤ l.length) (c' : Nat) (hc : m ≤ c') : VsV w (.slice (some a) m c') (l.take m) := by
  obtain ⟨⟨rows, h1, h2⟩, _⟩ := h
  exact ⟨⟨rows.take m, h1.taken (by rw [h2.1]; exact hm) c', h2.take m⟩, .inr ⟨_, _, _, rfl, hc⟩⟩
theorem VsV.dropped {w : World} {a : Addr} {n c : Nat} {l : List RawV} (h : VsV w (.slice (some a) n c) l) {m : Nat} (hm : m ≤ l.length) (c' : Nat) (hc : n - m ≤ c') : VsV w (.slice (some (a.add (m * 4))) (n - m) c') (l.drop m) := by
  obtain ⟨⟨rows, h1, h2⟩, _⟩ := h
  exact ⟨⟨rows.drop m, h1.dropped (by rw [h2.1]; exact hm) c', h2.drop m⟩, .inr ⟨_, _, _, rfl, hc⟩⟩
theorem VsV.of_len {w : World} {v : Value} {l : List RawV} (h : VsV w v l) : ∃ rows : List (List Value), Sl w 4 v rows ∧ TellVs w rows l ∧ rows.length = l.length := by
  obtain ⟨⟨rows, h1, h2⟩, _⟩ := h
  exact ⟨rows, h1, h2, h2.1⟩
/-- nil, or it lies in memory -/
theorem VsV.cases {w : World} {p : Option Addr} {n c : Nat} {l : List RawV} (h : VsV w (.slice p n c) l) : (p = none ∧ n = 0 ∧ c = 0 ∧ l = []) ∨ ((∃ a, p = some a) ∧ n ≤ c) := by
  obtain ⟨p', c', e⟩ := h.isSlice
  rcases h.2 with e' | ⟨ad, n', c'', e', hc⟩
  · simp only [Value.slice.injEq] at e e'
    obtain ⟨rfl, rfl, rfl⟩ := e'
    exact .inl ⟨rfl, rfl, rfl, List.eq_nil_of_length_eq_zero e.2.1.symm⟩
  · cases e'
    exact .inr ⟨⟨_, rfl⟩, hc⟩
theorem tell_one {w : World} {rows : List (List Value)} {l : List RawV} (h : TellVs w rows l) : ∀ r ∈ rows, ∀ u ∈ r, u.oneCell' = true := fun r hr u hu => by
  obtain ⟨i, hi, rfl⟩ := List.getElem_of_mem hr
  obtain ⟨r', e1, vb, vn, vz, e, ⟨pb, cb, rfl⟩, ⟨pn, cn, rfl⟩, ⟨pz, cz, rfl⟩, _⟩ := h.2 i (by rw [← h.1]; exact hi)
  rw [List.getElem?_eq_getElem hi] at e1
  cases e1
  have e' := congrArg (fun v => match v with | Value.agg c => c.toList | _ => []) e
  simp at e'
  rw [e'] at hu
  simp [cellsV] at hu
  rcases hu with rfl | rfl | rfl | rfl <;> rfl
/-! ### replies -/
abbrev RepV := RepU RawV
/-- a reply's cells -/
def cellsR (e : Nat) (vi : Value) (id : Nat) (vb vn vz : Value) : List Value := [.int .i64 (e : Int), vi, .int .u32 (id : Int), vb, vn, vz]
/-- these cells tell the reply -/
def RepOkV (w : World) (r : List Value) (x : RepU RawV) : Prop :=
  ∃ vi q, r = .int .i64 (x.err : Int) :: vi :: q ∧ (∃ p c, vi = .slice p x.ids.length c) ∧ Sl w 1 vi (rowsU .u32 x.ids) ∧ VV w (.agg q.toArray) x.ver
theorem RepOkV.below {w w' : World} {r : List Value} {x : RepU RawV} (h : RepOkV w r x) (hb : Below w.heap.size w w') : RepOkV w' r x := by
  obtain ⟨vi, q, e, h1, h2, h3⟩ := h
  exact ⟨vi, q, e, h1, h2.below hb, h3.below hb⟩
theorem VV.len {w : World} {q : List Value} {a : RawV} (h : VV w (.agg q.toArray) a) : q.length = 4 := by
  obtain ⟨vb, vn, vz, e, _⟩ := h
  have := congrArg (fun v => match v with | Value.agg c => c.toList | _ => []) e
  simp at this
  rw [this]; rfl
theorem VV.row {w : World} {q : List Value} {a : RawV} (h : VV w (.agg q.toArray) a) : ∃ pb cb pn cn pz cz, q = cellsV a.id (.slice pb a.bl.length cb) (.slice pn a.ns.length cn) (.slice pz a.zs.length cz) := by
  obtain ⟨vb, vn, vz, e, ⟨pb, cb, rfl⟩, ⟨pn, cn, rfl⟩, ⟨pz, cz, rfl⟩, _⟩ := h
  have := congrArg (fun v => match v with | Value.agg c => c.toList | _ => []) e
  simp at this
  exact ⟨pb, cb, pn, cn, pz, cz, this⟩
theorem RepOkV.row {w : World} {r : List Value} {x : RepU RawV} (h : RepOkV w r x) : ∃ pi ci pb cb pn cn pz cz, r = cellsR x.err (.slice pi x.ids.length ci) x.ver.id (.slice pb x.ver.bl.length cb) (.slice pn x.ver.ns.length cn) (.slice pz x.ver.zs.length cz) := by
  obtain ⟨vi, q, rfl, ⟨pi, ci, rfl⟩, _, hv⟩ := h
  obtain ⟨pb, cb, pn, cn, pz, cz, rfl⟩ := hv.row
  exact ⟨pi, ci, pb, cb, pn, cn, pz, cz, rfl⟩
theorem RepOkV.len {w : World} {r : List Value} {x : RepU RawV} (h : RepOkV w r x) : r.length = 6 := by
  obtain ⟨_, _, _, _, _, _, _, _, rfl⟩ := h.row
  rfl
theorem rep_none (w : World) (e : Nat) : RepOkV w (cellsR e (.slice none 0 0) 0 (.slice none 0 0) (.slice none 0 0) (.slice none 0 0)) ⟨e, [], noV⟩ := ⟨_, _, rfl, ⟨_, _, rfl⟩, Sl.none 1, VV.none w⟩
/-! ### states -/
abbrev StV := StU RawV
/-- a state's cells: its versions' slice, its numbers, its replies' cells -/
def cellsS (vv : Value) (s0 s1 s2 : Nat) (r0 r1 r2 : List Value) : List Value := vv :: .int .u32 (s0 : Int) :: .int .u32 (s1 : Int) :: .int .u32 (s2 : Int) :: (r0 ++ r1 ++ r2)
/-- the value is this state -/
def StTold (w : World) (v : Value) (s : StU RawV) : Prop :=
  ∃ vv s0 s1 s2 r0 r1 r2 x0 x1 x2, v = .agg (cellsS vv s0 s1 s2 r0 r1 r2).toArray ∧ VsV w vv s.vers ∧ s.seqs = [s0, s1, s2] ∧ s.last = [x0, x1, x2] ∧ (s0 < 4294967296 ∧ s1 < 4294967296 ∧ s2 < 4294967296) ∧ RepOkV w r0 x0 ∧ RepOkV w r1 x1 ∧ RepOkV w r2 x2
theorem StTold.below {w w' : World} {v : Value} {s : StU RawV} (h : StTold w v s) (hb : Below w.heap.size w w') : StTold w' v s := by
  obtain ⟨vv, s0, s1, s2, r0, r1, r2, x0, x1, x2, e, h1, h2, h3, h4, h5, h6, h7⟩ := h
  exact ⟨vv, s0, s1, s2, r0, r1, r2, x0, x1, x2, e, h1.below hb, h2, h3, h4, h5.below hb, h6.below hb, h7.below hb⟩
/-! ### requests, ops -/
def cellsO (kind : Int) (id : Nat) (q : List Value) : List Value := .int .i64 kind :: .int .u32 (id : Int) :: q
def OpTold (w : World) (v : Value) (kind : Int) (id : Nat) (a : RawV) : Prop := ∃ q, v = .agg (cellsO kind id q).toArray ∧ VV w (.agg q.toArray) a
def cellsQ (client : Int) (seq : Nat) (q : List Value) : List Value := .int .i64 client :: .int .u32 (seq : Int) :: q
def ReqTold (w : World) (v : Value) (r : ReqU RawV) : Prop := ∃ q, v = .agg (cellsQ r.client r.seq (cellsO r.kind r.id q)).toArray ∧ VV w (.agg q.toArray) r.ver
theorem size_st : (Try.prog.info? 46).map (·.size) = some 22 := by kernel_rfl
theorem size_rep : (Try.prog.info? 39).map (·.size) = some 6 := by kernel_rfl
theorem size_op : (Try.prog.info? 30).map (·.size) = some 6 := by kernel_rfl
theorem size_req : (Try.prog.info? 60).map (·.size) = some 8 := by kernel_rfl
end Go.Proofs.Ytogonbgelaehhaa
namespace Go.Proofs.Ytogonbgelaehhaa
open Go.RowKit
set_option linter.unusedVariables false

/-! ### fewer cells -/
def Sub (w w' : World) : Prop := w.heap.size ≤ w'.heap.size ∧ ∀ a x, w.cell? a = some x → w'.cell? a = some x
theorem Sl.sub {w w' : World} {k : Nat} {v : Value} {rows : List (List Value)} (h : Sl w k v rows) (hb : Sub w w') : Sl w' k v rows := by
  obtain ⟨h1, p, cap, h2, h3⟩ := h
  refine ⟨h1, p, cap, h2, fun i r hr => ?_⟩
  obtain ⟨a, q1, q2, q3⟩ := h3 i r hr
  exact ⟨a, q1, Nat.lt_of_lt_of_le q2 hb.1, fun j x hx => hb.2 _ _ (q3 j x hx)⟩
theorem VV.sub {w w' : World} {v : Value} {a : RawV} (h : VV w v a) (hb : Sub w w') : VV w' v a := by
  obtain ⟨vb, vn, vz, e, q1, q2, q3, s1, s2, s3⟩ := h
  exact ⟨vb, vn, vz, e, q1, q2, q3, s1.sub hb, s2.sub hb, s3.sub hb⟩
theorem TellVs.sub {w w' : World} {rows : List (List Value)} {l : List RawV} (h : TellVs w rows l) (hb : Sub w w') : TellVs w' rows l := by
  refine ⟨h.1, fun i hi => ?_⟩
  obtain ⟨r, h1, h2⟩ := h.2 i hi
  exact ⟨r, h1, h2.sub hb⟩
theorem VsV.sub {w w' : World} {v : Value} {l : List RawV} (h : VsV w v l) (hb : Sub w w') : VsV w' v l := by
  obtain ⟨⟨rows, h1, h2⟩, h3⟩ := h
  exact ⟨⟨rows, h1.sub hb, h2.sub hb⟩, h3⟩
theorem RepOkV.sub {w w' : World} {r : List Value} {x : RepU RawV} (h : RepOkV w r x) (hb : Sub w w') : RepOkV w' r x := by
  obtain ⟨vi, q, e, h1, h2, h3⟩ := h
  exact ⟨vi, q, e, h1, h2.sub hb, h3.sub hb⟩
theorem StTold.sub {w w' : World} {v : Value} {s : StU RawV} (h : StTold w v s) (hb : Sub w w') : StTold w' v s := by
  obtain ⟨vv, s0, s1, s2, r0, r1, r2, x0, x1, x2, e, h1, h2, h3, h4, h5, h6, h7⟩ := h
  exact ⟨vv, s0, s1, s2, r0, r1, r2, x0, x1, x2, e, h1.sub hb, h2, h3, h4, h5.sub hb, h6.sub hb, h7.sub hb⟩
theorem OpTold.sub {w w' : World} {v : Value} {kind : Int} {id : Nat} {a : RawV} (h : OpTold w v kind id a) (hb : Sub w w') : OpTold w' v kind id a := by
  obtain ⟨q, e, h1⟩ := h
  exact ⟨q, e, h1.sub hb⟩
theorem ReqTold.sub {w w' : World} {v : Value} {r : ReqU RawV} (h : ReqTold w v r) (hb : Sub w w') : ReqTold w' v r := by
  obtain ⟨q, e, h1⟩ := h
  exact ⟨q, e, h1.sub hb⟩
/-! ### variables left out -/
def erT (t : TypeId) : Bool := t == 46 || t == 39 || t == 42
def erO (lo k : Nat) : Obj → Obj
  | .cells c t f => if lo ≤ k ∧ erT t = true then .cells #[] t f else .cells c t f
  | o => o
def er (lo : Nat) (w : World) : World := { w with heap := w.heap.mapIdx fun k o => erO lo k o }
theorem er_size (lo : Nat) (w : World) : (er lo w).heap.size = w.heap.size := by simp [er]
theorem er_at (lo : Nat) (w : World) (k : Nat) : (er lo w).heap[k]? = (w.heap[k]?).map (erO lo k) := by simp [er]
theorem er_below {w w' : World} {B : Nat} (lo : Nat) (h : Below B w w') : Below B (er lo w) (er lo w') := ⟨h.os, h.tape, h.output, by rw [er_size, er_size]; exact h.size, fun k hk => by rw [er_at, er_at, h.block k hk]⟩
theorem er_belowS {w w' : World} (lo : Nat) (h : Below w.heap.size w w') : Below (er lo w).heap.size (er lo w) (er lo w') := by
  rw [er_size]
  exact er_below lo h
theorem er_sub (lo : Nat) (w : World) : Sub (er lo w) w := by
  refine ⟨by rw [er_size]; exact Nat.le_refl _, fun a x hx => ?_⟩
  unfold World.cell? at hx ⊢
  rw [er_at] at hx
  cases ho : w.heap[a.block]? with
  | none => rw [ho] at hx; cases hx
  | some o =>
    rw [ho] at hx
    cases o with
    | cells c t f =>
      simp only [Option.map_some, erO] at hx
      by_cases hc : lo ≤ a.block ∧ erT t = true
      · rw [if_pos hc] at hx
        simp at hx
      · rw [if_neg hc] at hx
        exact hx
    | _ => simp [erO] at hx
/-- such a variable is stored in: nothing of it is seen -/
theorem er_setRow {w : World} {b : Nat} {t : TypeId} {vs : List Value} (lo : Nat) (h : Blk w b t vs) (ht : erT t = true) (hb : lo ≤ b) (cs : Array Value) : er lo (w.setRow b cs) = er lo w := by
  unfold Blk at h
  have e : (w.setRow b cs).heap.mapIdx (fun k o => erO lo k o) = w.heap.mapIdx (fun k o => erO lo k o) := by
    apply Array.ext_getElem?
    intro k
    rw [Array.getElem?_mapIdx, Array.getElem?_mapIdx]
    by_cases hk : k = b
    · subst hk
      rw [setRow_heap w k _ cs t _ h, h]
      simp [erO, hb, ht]
    · rw [setRow_other w b k cs hk]
  show ({ (w.setRow b cs) with heap := (w.setRow b cs).heap.mapIdx fun k o => erO lo k o } : World) = _
  rw [e]
  rfl
theorem er_setCell {w : World} {a : Addr} {t : TypeId} {vs : List Value} (lo : Nat) (h : Blk w a.block t vs) (ht : erT t = true) (hb : lo ≤ a.block) (x : Value) : er lo (w.setCell a x) = er lo w := by
  unfold Blk at h
  have e : (w.setCell a x).heap.mapIdx (fun k o => erO lo k o) = w.heap.mapIdx (fun k o => erO lo k o) := by
    apply Array.ext_getElem?
    intro k
    rw [Array.getElem?_mapIdx, Array.getElem?_mapIdx]
    by_cases hk : k = a.block
    · subst hk
      rw [h]
      simp only [World.setCell, Array.getElem?_modify, h]
      simp [erO, hb, ht]
    · rw [Below.heap_setCell _ _ _ _ hk]
  show ({ (w.setCell a x) with heap := (w.setCell a x).heap.mapIdx fun k o => erO lo k o } : World) = _
  rw [e]
  rfl
theorem own_er {w : World} {base : Nat} {e : TypeId} {k : Nat} {v : Value} {rows : List (List Value)} (lo : Nat) (h : OwnR w base e k v rows) (he : erT e = false) : OwnR (er lo w) base e k v rows := by
  obtain ⟨k0, k1, k2⟩ := h
  refine ⟨k0, k1, ?_⟩
  rcases k2 with h | ⟨g, cap, cur, hv, hg, hh, rest⟩
  · exact .inl h
  · refine .inr ⟨g, cap, cur, hv, hg, ?_, rest⟩
    rw [er_at, hh]
    simp [erO, he]
/-- what lies under lo is seen as it is -/
theorem st_er {w w' : World} {lo : Nat} {v : Value} {s : StU RawV} (h : StTold w v s) (hlo : w.heap.size = lo) (hb : Below lo w w') : StTold (er lo w') v s := by
  subst hlo
  refine h.below ⟨hb.os, hb.tape, hb.output, by rw [er_size]; exact hb.size, fun k hk => ?_⟩
  rw [er_at, hb.block k hk]
  cases w.heap[k]? with
  | none => rfl
  | some o => cases o <;> simp [erO]; omega
theorem below_er {w w' : World} (hb : Below w.heap.size w w') : Below w.heap.size w (er w.heap.size w') := by
  refine ⟨hb.os, hb.tape, hb.output, by rw [er_size]; exact hb.size, fun k hk => ?_⟩
  rw [er_at, hb.block k hk]
  cases w.heap[k]? with
  | none => rfl
  | some o => cases o <;> simp [erO]; omega
end Go.Proofs.Ytogonbgelaehhaa
namespace Go.Proofs.Ytogonbgelaehhaa
open Go.RowKit
set_option linter.unusedVariables false

/-- where the first version of that number stands; -1: nowhere -/
def findV (l : List RawV) (id : Nat) : Int := match l.findIdx? (fun v => decide (v.id = id)) with | some i => (i : Int) | none => -1
theorem getV_at {l : List RawV} {j : Nat} (h : j < l.length) : l.getD j noV = l[j] := by rw [List.getD_eq_getElem?_getD, List.getElem?_eq_getElem h]; rfl
theorem findV_at {l : List RawV} {id j : Nat} (hj : j < l.length) (h : (l.getD j noV).id = id) (hn : ∀ k, k < j → (l.getD k noV).id ≠ id) : findV l id = (j : Int) := by
  have : l.findIdx? (fun v => decide (v.id = id)) = some j := by
    rw [List.findIdx?_eq_some_iff_getElem]
    refine ⟨hj, by rw [decide_eq_true_eq, ← getV_at hj]; exact h, fun k hk => ?_⟩
    have := hn k hk
    rw [getV_at (by omega)] at this
    simpa using this
  unfold findV
  rw [this]
theorem findV_none {l : List RawV} {id : Nat} (hn : ∀ k, k < l.length → (l.getD k noV).id ≠ id) : findV l id = -1 := by
  have : l.findIdx? (fun v => decide (v.id = id)) = none := by
    rw [List.findIdx?_eq_none_iff]
    intro x hx
    obtain ⟨k, hk, rfl⟩ := List.getElem_of_mem hx
    have := hn k hk
    rw [getV_at hk] at this
    simpa using this
  unfold findV
  rw [this]
set_option maxRecDepth 100000 in
set_option maxHeartbeats 1000000 in
theorem vr_find (l : List RawV) (p : Option Addr) (c id : Nat) (r : Int) (w : World) (hl : l.length ≤ 1000000) (hr : findV l id = r) (hS : VsV w (.slice p l.length c) l) :
    Calls Try.prog 33 #[.slice p l.length c, .int .u32 (id : Int)] w fun e w' => e = .returned (.int .i64 r) ∧ Below w.heap.size w w' := by
  have HS := Lib.hid hS
  have HR := Lib.hid hr
  clear hS hr
  go_enter Try.func33, Try.ntmps33
  go_wp2
  go_loopw [5] (fun i wr => ∃ j : Nat, j ≤ l.length ∧ i = .int .i64 (j : Int) ∧ Hid (∀ k, k < j → (l.getD k noV).id ≠ id) ∧ Below w.heap.size w wr) (fun i _ => l.length - (intOf i).toNat)
  case atStart => exact ⟨0, by omega, rfl, Lib.hid fun k hk => absurd hk (Nat.not_lt_zero k), Below.refl _ _⟩
  case round =>
    obtain ⟨j, hj, rfl, HN, gb⟩ := hrel
    by_cases hlt : j < l.length
    · obtain ⟨a, rfl, c1⟩ := (HS.out.below gb).id_at hlt
      have d1 : (j : Int) < (l.length : Int) := by omega
      by_cases hq : (l.getD j noV).id = id
      · have HF := Lib.hid ((findV_at hlt hq HN.out).symm.trans HR.out)
        have e1 : (((l.getD j noV).id : Nat) : Int) = (id : Int) := by rw [hq]
        have e2 : ((((l.getD j noV).id : Nat) : Int) == (id : Int)) = true := by rw [e1]; simp
        rw [e1] at c1
        clear hq e1 e2
        go_wp2
        go_ret
        exact ⟨congrArg (fun x => Ending.returned (.int .i64 x)) HF.out, gb⟩
      · have HN2 : Hid (∀ k, k < j + 1 → (l.getD k noV).id ≠ id) := Lib.hid fun k hk => by
          rcases Nat.lt_succ_iff_lt_or_eq.1 hk with h | rfl
          · exact HN.out k h
          · exact hq
        generalize (l.getD j noV).id = X at *
        have e2 : ((X : Int) == (id : Int)) = false := by simp; omega
        clear hq
        go_wp2
        go_roundw
        case rel => exact ⟨j + 1, by omega, by go_num, HN2, gb⟩
        case measure => simp [intOf]; omega
    · obtain rfl : j = l.length := by omega
      have HF := Lib.hid ((findV_none HN.out).symm.trans HR.out)
      go_wp2
      go_ret
      exact ⟨congrArg (fun x => Ending.returned (.int .i64 x)) HF.out, gb⟩
theorem ids_snoc (l : List RawV) {j : Nat} (h : j < l.length) : (l.take (j + 1)).map (·.id) = (l.take j).map (·.id) ++ [(l.getD j noV).id] := by
  rw [List.take_succ_eq_append_getElem h, List.map_append, getV_at h]
  rfl
theorem rowsU_snoc (k : IntKind) (l : List Nat) (x : Nat) : rowsU k (l ++ [x]) = rowsU k l ++ [[.int k (x : Int)]] := by simp [rowsU]
theorem info_u32r : (Try.prog.info? 23).map (fun i => (i.zero, i.size, i.bytes)) = some (some (.int .u32 0), 1, 4) := by kernel_rfl
set_option maxRecDepth 100000 in
set_option maxHeartbeats 1000000 in
theorem vr_ids (l : List RawV) (p : Option Addr) (c : Nat) (w : World) (hl : l.length ≤ 1000000) (hS : VsV w (.slice p l.length c) l) :
    Calls Try.prog 35 #[.slice p l.length c] w fun e w' => ∃ v, e = .returned v ∧ OwnR w' w.heap.size 23 1 v (rowsU .u32 (l.map (·.id))) ∧ Below w.heap.size w w' := by
  obtain ⟨i0, hi0, hz0, hz1, hz2⟩ := info_parts2 info_u32r
  have HS := Lib.hid hS
  have K1 := Lib.hid (OwnR.empty w w.heap.size 23 1 (Nat.le_refl _))
  have KB := Lib.hid ((Below.refl w.heap.size w).alloc (Nat.le_refl _) (.cells #[] 23))
  clear hS
  go_enter Try.func35, Try.ntmps35
  go_wp2
  go_loopw [3, 4] (fun u i wr => ∃ j : Nat, j ≤ l.length ∧ i = .int .i64 (j : Int) ∧ OwnR wr w.heap.size 23 1 u (rowsU .u32 ((l.take j).map (·.id))) ∧ Below w.heap.size w wr) (fun _ i _ => l.length - (intOf i).toNat)
  case atStart => exact ⟨0, by omega, rfl, K1.out, KB.out⟩
  case round =>
    obtain ⟨j, hj, rfl, go1, gb⟩ := hrel
    clear K1 KB
    by_cases hlt : j < l.length
    · obtain ⟨a, rfl, c1⟩ := (HS.out.below gb).id_at hlt
      have d1 : (j : Int) < (l.length : Int) := by omega
      have E1 : Hid (rowsU .u32 ((l.take (j + 1)).map (·.id)) = rowsU .u32 ((l.take j).map (·.id)) ++ [[.int .u32 ((l.getD j noV).id : Int)]]) := Lib.hid (by rw [ids_snoc l hlt, rowsU_snoc])
      have l1 : (rowsU .u32 ((l.take j).map (·.id))).length = j := by rw [rowsU_len, List.length_map, List.length_take]; omega
      have L1 := Lib.hid l1
      clear l1
      generalize rowsU .u32 ((l.take j).map (·.id)) = R1 at *
      generalize (l.getD j noV).id = X at *
      have hnb := Blk.new' wr 23 (c := #[.int .u32 (X : Int)]) [.int .u32 (X : Int)] rfl
      have HNW := Lib.hid (sl_one hnb)
      have HLO := Lib.hid go1.lt
      have HOW := Lib.hid (go1.alloc (.cells #[.int .u32 (X : Int)] 23))
      have hgb := gb.alloc gb.size (.cells #[.int .u32 (X : Int)] 23)
      have HBA := Lib.hid hgb.size
      have HGB := Lib.hid hgb
      have HONE : Hid (∀ r ∈ [[Value.int .u32 (X : Int)]], ∀ u ∈ r, u.oneCell' = true) := Lib.hid (by simp [Value.oneCell'])
      have HLEN : Hid (R1.length + [[Value.int .u32 (X : Int)]].length ≤ maxLen) := Lib.hid (by rw [L1.out, List.length_singleton]; unfold maxLen; omega)
      have HBY : Hid ((R1.length + [[Value.int .u32 (X : Int)]].length) * 4 ≤ 140737488355328) := Lib.hid (by rw [L1.out, List.length_singleton]; omega)
      clear hnb hgb
      obtain ⟨pu, cu, rfl⟩ := go1.isSlice
      clear go1 gb
      go_wp2_with (first | (refine wpList_append_rows rfl _ _ 37 rfl w.heap.size 23 i0 (.int .u32 0) 1 4 Try.underlying37 hi0 hz0 hz1 hz2 rfl (by decide) _ R1 rfl HOW.out (.slice (some ⟨wr.heap.size, 0, none⟩) 1 1) [[.int .u32 (X : Int)]] rfl HNW.out HONE.out HLEN.out HBY.out HBA.out (.inr ⟨_, _, _, rfl⟩) ?_; intro v5 w5 ho5 hg5 hv5; have GB5 := Lib.hid (HGB.out.grown hg5 HBA.out (fun k e => (HLO.out k e).1)); have HO5 := Lib.hid ho5; clear ho5 hg5 hv5))
      go_roundw
      case rel => exact ⟨j + 1, by omega, by go_num, by rw [E1.out]; exact HO5.out, GB5.out⟩
      case measure => simp [intOf]; omega
    · obtain rfl : j = l.length := by omega
      rw [List.take_length] at go1
      have HO1 := Lib.hid go1
      clear go1
      go_wp2
      go_ret
      exact ⟨_, rfl, HO1.out, gb⟩
end Go.Proofs.Ytogonbgelaehhaa
namespace Go.Proofs.Ytogonbgelaehhaa
open Go.RowKit
set_option linter.unusedVariables false

def zRp : List Value := cellsR 0 (.slice none 0 0) 0 (.slice none 0 0) (.slice none 0 0) (.slice none 0 0)
def zS : List Value := cellsS (.slice none 0 0) 0 0 0 zRp zRp zRp
def eR (e : Nat) : List Value := cellsR e (.slice none 0 0) 0 (.slice none 0 0) (.slice none 0 0) (.slice none 0 0)
theorem eR_told (w : World) (e : Nat) : RepOkV w (eR e) ⟨e, [], noV⟩ := rep_none w e
theorem eR_one (e : Nat) : (eR e).toArray.all (·.oneCell') = true := by simp [eR, cellsR, Value.oneCell']
theorem alloc_rep (w : World) : (Instr.alloc 39 true (.tuple #[])).run Try.prog w = .ok (.pointer (some ⟨w.heap.size, 0, none⟩)) (w.alloc (.cells zRp.toArray 39)) := by kernel_rfl
theorem alloc_st (w : World) : (Instr.alloc 46 true (.tuple #[])).run Try.prog w = .ok (.pointer (some ⟨w.heap.size, 0, none⟩)) (w.alloc (.cells zS.toArray 46)) := by kernel_rfl
theorem build_repE (e : Nat) (w : World) : (Instr.build 39 #[(0, .int .i64 (e : Int))]).run Try.prog w = .ok (.agg (eR e).toArray) w := by kernel_rfl
theorem build_rep0 (w : World) : (Instr.build 39 #[]).run Try.prog w = .ok (.agg zRp.toArray) w := by kernel_rfl
set_option maxRecDepth 100000 in
theorem vr_wrong (e : Nat) (w : World) : Calls Try.prog 34 #[.int .i64 (e : Int)] w fun x w' => x = .returned (.agg (eR e).toArray) ∧ Below w.heap.size w w' := by
  have k1 := Blk.new' w 39 (c := zRp.toArray) zRp rfl
  have k2 := k1.row (eR e) rfl
  have kb := below_setRow ((Below.refl w.heap.size w).alloc (Nat.le_refl _) (.cells zRp.toArray 39)) (Nat.le_refl _) (eR e).toArray
  have K1 := Lib.hid k1
  have K2 := Lib.hid k2
  have KB := Lib.hid kb
  clear k1 k2 kb
  go_enter Try.func34, Try.ntmps34
  go_wp2_with (first | (refine wpList_alloc_n rfl 39 rfl w.heap.size rfl _ (alloc_rep _) ?_) | (refine wpList_build_at rfl 39 _ rfl (.agg (eR e).toArray) (by simp only [List.map_toArray, List.map_cons, List.map_nil]; exact build_repE e _) ?_) | (refine wpList_store_blk rfl 39 _ _ rfl w.heap.size (eR e) rfl rfl K1.out (by rw [size_rep]; rfl) rfl (eR_one e) ?_))
  refine bodyPost_ret (v := .agg (eR e).toArray) (results_cell_blk rfl _ _ w.heap.size rfl K2.out Try.underlying39 rfl (by rw [size_rep]; rfl)) rfl ?_
  exact ⟨rfl, KB.out⟩
/-- a state's cells, one by one -/
theorem cellsS_one {w : World} {vv : Value} {s0 s1 s2 : Nat} {r0 r1 r2 : List Value} {x0 x1 x2 : RepU RawV} (hv : ∃ p n c, vv = .slice p n c) (h0 : RepOkV w r0 x0) (h1 : RepOkV w r1 x1) (h2 : RepOkV w r2 x2) :
    (cellsS vv s0 s1 s2 r0 r1 r2).toArray.all (·.oneCell') = true ∧ (cellsS vv s0 s1 s2 r0 r1 r2).length = 22 := by
  obtain ⟨p, n, c, rfl⟩ := hv
  obtain ⟨_, _, _, _, _, _, _, _, rfl⟩ := h0.row
  obtain ⟨_, _, _, _, _, _, _, _, rfl⟩ := h1.row
  obtain ⟨_, _, _, _, _, _, _, _, rfl⟩ := h2.row
  exact ⟨by simp [cellsS, cellsR, Value.oneCell'], rfl⟩
/-- what is known of a state that is an argument: its cells -/
theorem st_cells {w : World} {v : Value} {s : StU RawV} (h : StTold w v s) : ∃ (S : List Value) (p : Option Addr) (c : Nat), v = .agg S.toArray ∧ S.length = 22 ∧ S.toArray.all (·.oneCell') = true ∧ S[0]? = some (.slice p s.vers.length c) ∧ VsV w (.slice p s.vers.length c) s.vers := by
  obtain ⟨vv, s0, s1, s2, r0, r1, r2, x0, x1, x2, rfl, hV, _, _, _, h0, h1, h2⟩ := h
  obtain ⟨p, c, rfl⟩ := hV.isSlice
  have := cellsS_one (vv := .slice p s.vers.length c) (s0 := s0) (s1 := s1) (s2 := s2) ⟨_, _, _, rfl⟩ h0 h1 h2
  exact ⟨_, p, c, rfl, this.2, this.1, rfl, hV⟩
theorem op_cells {w : World} {v : Value} {kind : Int} {id : Nat} {a : RawV} (h : OpTold w v kind id a) : ∃ O : List Value, v = .agg O.toArray ∧ O.length = 6 ∧ O[0]? = some (.int .i64 kind) ∧ O[1]? = some (.int .u32 (id : Int)) ∧ O[2]? = some (.int .u32 (a.id : Int)) ∧ VV w (.agg (O.drop 2).toArray) a := by
  obtain ⟨q, rfl, hv⟩ := h
  obtain ⟨pb, cb, pn, cn, pz, cz, rfl⟩ := hv.row
  exact ⟨_, rfl, rfl, rfl, rfl, rfl, hv⟩
theorem Blk.cellOf {w : World} {b : Nat} {t : TypeId} {vs : List Value} (h : Blk w b t vs) {j : Nat} {x : Value} (hx : vs[j]? = some x) : w.cell? ⟨b, j, none⟩ = some x := by rw [h.cell, hx]
set_option maxRecDepth 100000 in
set_option maxHeartbeats 2000000 in
theorem vr_Do2e (s : StU RawV) (v vo : Value) (kind : Int) (id : Nat) (a : RawV) (w : World) (hs : StTold w v s) (ho : OpTold w vo kind id a) (hl : s.vers.length ≤ 1000000) (hk : kind = 2) (hf : findV s.vers id = -1) :
    Calls Try.prog 22 #[v, vo] w fun e w' => e = .returned (.tuple #[v, .agg (eR 3).toArray]) ∧ Below w.heap.size w w' := by
  obtain ⟨S, p, c, rfl, hSl, hS1, hS0, hV⟩ := st_cells hs
  obtain ⟨O, rfl, hOl, hO0, hO1, hO2, hOv⟩ := op_cells ho
  obtain ⟨B, hB⟩ : ∃ B, w.heap.size = B := ⟨_, rfl⟩
  have k0 := Blk.newAt w B hB 46 (c := S.toArray) S rfl
  have z1 : (w.alloc (.cells S.toArray 46)).heap.size = B + 1 := by simp [hB]
  have k1 := Blk.newAt _ (B + 1) z1 30 (c := O.toArray) O rfl
  have z2 : ((w.alloc (.cells S.toArray 46)).alloc (.cells O.toArray 30)).heap.size = B + 2 := by simp [hB]
  have k2 := Blk.newAt _ (B + 2) z2 46 (c := zS.toArray) zS rfl
  have z3 : (((w.alloc (.cells S.toArray 46)).alloc (.cells O.toArray 30)).alloc (.cells zS.toArray 46)).heap.size = B + 3 := by simp [hB]
  have k3 := Blk.newAt _ (B + 3) z3 39 (c := zRp.toArray) zRp rfl
  have kb := ((((Below.refl w.heap.size w).alloc (Nat.le_refl _) (.cells S.toArray 46)).alloc (by simp) (.cells O.toArray 30)).alloc (by simp; omega) (.cells zS.toArray 46)).alloc (by simp; omega) (.cells zRp.toArray 39)
  have K0 := Lib.hid (((k0.alloc (.cells O.toArray 30)).alloc (.cells zS.toArray 46)).alloc (.cells zRp.toArray 39))
  have K1 := Lib.hid ((k1.alloc (.cells zS.toArray 46)).alloc (.cells zRp.toArray 39))
  have K2 := Lib.hid (k2.alloc (.cells zRp.toArray 39))
  have K3 := Lib.hid k3
  have KB := Lib.hid kb
  have Z3 := Lib.hid z3
  have Z2 := Lib.hid z2
  have HS0 := Lib.hid hS0
  have HO0 := Lib.hid hO0
  have HO1 := Lib.hid hO1
  have HO2 := Lib.hid hO2
  have HOV := Lib.hid (hOv.below kb)
  have HSL := Lib.hid hSl
  have HOL := Lib.hid hOl
  have HSO := Lib.hid hS1
  have HV := Lib.hid (hV.below kb)
  have HF := Lib.hid hf
  have HL := Lib.hid hl
  have HSZ : Hid ((Try.prog.info? 46).map (·.size) = some S.length) := Lib.hid (by rw [size_st, hSl])
  have cl0 := K0.out.cellOf hS0
  have cl1 := K1.out.cellOf hO0
  have cl2 := K1.out.cellOf hO1
  clear k0 k1 k2 k3 kb z1 z2 z3 hS0 hO0 hO1 hO2 hOv hSl hS1 hV hf hl hs ho hOl
  generalize s.vers = L at *
  go_enter Try.func22, Try.ntmps22
  go_wp2_with (first | (refine wpList_alloc_n rfl 46 rfl (B + 2) Z2.out _ (alloc_st _) ?_) | (refine wpList_alloc_n rfl 39 rfl (B + 3) Z3.out _ (alloc_rep _) ?_))
  generalize (((w.alloc (.cells S.toArray 46)).alloc (.cells O.toArray 30)).alloc (.cells zS.toArray 46)).alloc (.cells zRp.toArray 39) = w4 at *
  clear cl0 cl1 cl2 Z2 Z3
  refine (vr_find L p c id (-1) w4 HL.out HF.out HV.out).mono ?_
  rintro e w5 ⟨rfl, hb5⟩
  have K05 := Lib.hid (K0.out.below hb5 K0.out.lt)
  have K15 := Lib.hid (K1.out.below hb5 K1.out.lt)
  have K25 := Lib.hid (K2.out.below hb5 K2.out.lt)
  have K35 := Lib.hid (K3.out.below hb5 K3.out.lt)
  have B5 := Lib.hid (KB.out.trans (hb5.mono KB.out.size))
  have V5 := Lib.hid (HV.out.below hb5)
  have OV5 := Lib.hid (HOV.out.below hb5)
  clear K0 K1 K2 K3 KB HV HOV hb5 HF
  have cl0 := K05.out.cellOf HS0.out
  have cl1 := K15.out.cellOf HO0.out
  have cl2 := K15.out.cellOf HO1.out
  subst hk
  go_wp2_with fail
  have HW : Hid (∀ wx, NewBut w5 wx → Calls Try.prog 34 #[.int .i64 3] wx fun x w' => x = .returned (.agg (eR 3).toArray) ∧ NewBut w5 w') := Lib.hid fun wx hx => (vr_wrong 3 wx).mono fun x w' ⟨q1, q2⟩ => ⟨q1, hx.trans (q2.mono hx.size)⟩
  have HRG : Hid (∀ wx, NewBut w5 wx → wx.rangeAt B 0 S) := Lib.hid fun wx hx => (K05.out.below hx K05.out.lt).whole
  refine region_quiet_tail (C := NewBut w5) 2 mixed (by kernel_rfl) (show Below _ _ _ from (Below.refl _ _).drew) ?_
  simp only [List.take_succ_cons, List.take_zero, List.drop_succ_cons, List.drop_zero]
  repeat (first | (refine wpQuiet_load_row rfl 46 _ rfl B 0 rfl S HRG.out Try.underlying46 rfl HSZ.out ?_) | go_big_quiet_step (fail) | (refine wpQuiet_step (fun K' hK' => ?_); go_simp; first | (refine hK' _ ?_; clear hK' K') | (refine ⟨_, fun _ _ => rfl, hK' _ ?_⟩; clear hK' K') | ((with_reducible refine ⟨_, fun wx hx => HW.out wx hx, hK' _ ?_⟩); clear hK' K')))
  refine wpQuiet_nil ?_
  intro w7 hb7
  have k27 := K25.out.below hb7 K25.out.lt
  have k37 := K35.out.below hb7 K35.out.lt
  have b7 := B5.out.trans (Below.mono hb7 B5.out.size)
  have K27 := Lib.hid k27
  have K38 := Lib.hid (k37.rowOther (show B + 3 ≠ B + 2 by omega) S.toArray)
  have M2 := Lib.hid ((k27.row S (by rw [HSL.out]; rfl)).rowOther (show B + 2 ≠ B + 3 by omega) (eR 3).toArray)
  have M3 := Lib.hid ((k37.rowOther (show B + 3 ≠ B + 2 by omega) S.toArray).row (eR 3) rfl)
  have M4 := Lib.hid (below_setRow (below_setRow b7 (show w.heap.size ≤ B + 2 by omega) S.toArray) (show w.heap.size ≤ B + 3 by omega) (eR 3).toArray)
  clear hb7 k27 k37 b7
  go_wp2_with (first | (refine wpList_store_blk rfl 46 _ _ rfl (B + 2) S rfl rfl K27.out HSZ.out (by rw [HSL.out]; rfl) HSO.out ?_) | (refine wpList_store_blk rfl 39 _ _ rfl (B + 3) (eR 3) rfl rfl K38.out (by rw [size_rep]; rfl) rfl (eR_one 3) ?_))
  refine bodyPost_ret (v := .tuple #[.agg S.toArray, .agg (eR 3).toArray]) (results_cells2 rfl _ _ (B + 2) (B + 3) rfl rfl M2.out M3.out Try.underlying46 rfl HSZ.out Try.underlying39 rfl (by rw [size_rep]; rfl)) rfl ?_
  exact ⟨rfl, M4.out⟩
set_option maxRecDepth 100000 in
set_option maxHeartbeats 2000000 in
theorem vr_Do5e (s : StU RawV) (v vo : Value) (kind : Int) (id : Nat) (a : RawV) (w : World) (hs : StTold w v s) (ho : OpTold w vo kind id a) (hl : s.vers.length ≤ 1000000) (hk : kind = 5) (hf : findV s.vers id = -1) :
    Calls Try.prog 22 #[v, vo] w fun e w' => e = .returned (.tuple #[v, .agg (eR 3).toArray]) ∧ Below w.heap.size w w' := by
  obtain ⟨S, p, c, rfl, hSl, hS1, hS0, hV⟩ := st_cells hs
  obtain ⟨O, rfl, hOl, hO0, hO1, hO2, hOv⟩ := op_cells ho
  obtain ⟨B, hB⟩ : ∃ B, w.heap.size = B := ⟨_, rfl⟩
  have k0 := Blk.newAt w B hB 46 (c := S.toArray) S rfl
  have z1 : (w.alloc (.cells S.toArray 46)).heap.size = B + 1 := by simp [hB]
  have k1 := Blk.newAt _ (B + 1) z1 30 (c := O.toArray) O rfl
  have z2 : ((w.alloc (.cells S.toArray 46)).alloc (.cells O.toArray 30)).heap.size = B + 2 := by simp [hB]
  have k2 := Blk.newAt _ (B + 2) z2 46 (c := zS.toArray) zS rfl
  have z3 : (((w.alloc (.cells S.toArray 46)).alloc (.cells O.toArray 30)).alloc (.cells zS.toArray 46)).heap.size = B + 3 := by simp [hB]
  have k3 := Blk.newAt _ (B + 3) z3 39 (c := zRp.toArray) zRp rfl
  have kb := ((((Below.refl w.heap.size w).alloc (Nat.le_refl _) (.cells S.toArray 46)).alloc (by simp) (.cells O.toArray 30)).alloc (by simp; omega) (.cells zS.toArray 46)).alloc (by simp; omega) (.cells zRp.toArray 39)
  have K0 := Lib.hid (((k0.alloc (.cells O.toArray 30)).alloc (.cells zS.toArray 46)).alloc (.cells zRp.toArray 39))
  have K1 := Lib.hid ((k1.alloc (.cells zS.toArray 46)).alloc (.cells zRp.toArray 39))
  have K2 := Lib.hid (k2.alloc (.cells zRp.toArray 39))
  have K3 := Lib.hid k3
  have KB := Lib.hid kb
  have Z3 := Lib.hid z3
  have Z2 := Lib.hid z2
  have HS0 := Lib.hid hS0
  have HO0 := Lib.hid hO0
  have HO1 := Lib.hid hO1
  have HO2 := Lib.hid hO2
  have HOV := Lib.hid (hOv.below kb)
  have HSL := Lib.hid hSl
  have HOL := Lib.hid hOl
  have HSO := Lib.hid hS1
  have HV := Lib.hid (hV.below kb)
  have HF := Lib.hid hf
  have HL := Lib.hid hl
  have HSZ : Hid ((Try.prog.info? 46).map (·.size) = some S.length) := Lib.hid (by rw [size_st, hSl])
  have cl0 := K0.out.cellOf hS0
  have cl1 := K1.out.cellOf hO0
  have cl2 := K1.out.cellOf hO1
  clear k0 k1 k2 k3 kb z1 z2 z3 hS0 hO0 hO1 hO2 hOv hSl hS1 hV hf hl hs ho hOl
  generalize s.vers = L at *
  go_enter Try.func22, Try.ntmps22
  go_wp2_with (first | (refine wpList_alloc_n rfl 46 rfl (B + 2) Z2.out _ (alloc_st _) ?_) | (refine wpList_alloc_n rfl 39 rfl (B + 3) Z3.out _ (alloc_rep _) ?_))
  generalize (((w.alloc (.cells S.toArray 46)).alloc (.cells O.toArray 30)).alloc (.cells zS.toArray 46)).alloc (.cells zRp.toArray 39) = w4 at *
  clear cl0 cl1 cl2 Z2 Z3
  refine (vr_find L p c id (-1) w4 HL.out HF.out HV.out).mono ?_
  rintro e w5 ⟨rfl, hb5⟩
  have K05 := Lib.hid (K0.out.below hb5 K0.out.lt)
  have K15 := Lib.hid (K1.out.below hb5 K1.out.lt)
  have K25 := Lib.hid (K2.out.below hb5 K2.out.lt)
  have K35 := Lib.hid (K3.out.below hb5 K3.out.lt)
  have B5 := Lib.hid (KB.out.trans (hb5.mono KB.out.size))
  have V5 := Lib.hid (HV.out.below hb5)
  have OV5 := Lib.hid (HOV.out.below hb5)
  clear K0 K1 K2 K3 KB HV HOV hb5 HF
  have cl0 := K05.out.cellOf HS0.out
  have cl1 := K15.out.cellOf HO0.out
  have cl2 := K15.out.cellOf HO1.out
  subst hk
  go_wp2_with fail
  have HW : Hid (∀ wx, NewBut w5 wx → Calls Try.prog 34 #[.int .i64 3] wx fun x w' => x = .returned (.agg (eR 3).toArray) ∧ NewBut w5 w') := Lib.hid fun wx hx => (vr_wrong 3 wx).mono fun x w' ⟨q1, q2⟩ => ⟨q1, hx.trans (q2.mono hx.size)⟩
  have HRG : Hid (∀ wx, NewBut w5 wx → wx.rangeAt B 0 S) := Lib.hid fun wx hx => (K05.out.below hx K05.out.lt).whole
  refine region_quiet_tail (C := NewBut w5) 2 mixed (by kernel_rfl) (show Below _ _ _ from (Below.refl _ _).drew) ?_
  simp only [List.take_succ_cons, List.take_zero, List.drop_succ_cons, List.drop_zero]
  repeat (first | (refine wpQuiet_load_row rfl 46 _ rfl B 0 rfl S HRG.out Try.underlying46 rfl HSZ.out ?_) | go_big_quiet_step (fail) | (refine wpQuiet_step (fun K' hK' => ?_); go_simp; first | (refine hK' _ ?_; clear hK' K') | (refine ⟨_, fun _ _ => rfl, hK' _ ?_⟩; clear hK' K') | ((with_reducible refine ⟨_, fun wx hx => HW.out wx hx, hK' _ ?_⟩); clear hK' K')))
  refine wpQuiet_nil ?_
  intro w7 hb7
  have k27 := K25.out.below hb7 K25.out.lt
  have k37 := K35.out.below hb7 K35.out.lt
  have b7 := B5.out.trans (Below.mono hb7 B5.out.size)
  have K27 := Lib.hid k27
  have K38 := Lib.hid (k37.rowOther (show B + 3 ≠ B + 2 by omega) S.toArray)
  have M2 := Lib.hid ((k27.row S (by rw [HSL.out]; rfl)).rowOther (show B + 2 ≠ B + 3 by omega) (eR 3).toArray)
  have M3 := Lib.hid ((k37.rowOther (show B + 3 ≠ B + 2 by omega) S.toArray).row (eR 3) rfl)
  have M4 := Lib.hid (below_setRow (below_setRow b7 (show w.heap.size ≤ B + 2 by omega) S.toArray) (show w.heap.size ≤ B + 3 by omega) (eR 3).toArray)
  clear hb7 k27 k37 b7
  go_wp2_with (first | (refine wpList_store_blk rfl 46 _ _ rfl (B + 2) S rfl rfl K27.out HSZ.out (by rw [HSL.out]; rfl) HSO.out ?_) | (refine wpList_store_blk rfl 39 _ _ rfl (B + 3) (eR 3) rfl rfl K38.out (by rw [size_rep]; rfl) rfl (eR_one 3) ?_))
  refine bodyPost_ret (v := .tuple #[.agg S.toArray, .agg (eR 3).toArray]) (results_cells2 rfl _ _ (B + 2) (B + 3) rfl rfl M2.out M3.out Try.underlying46 rfl HSZ.out Try.underlying39 rfl (by rw [size_rep]; rfl)) rfl ?_
  exact ⟨rfl, M4.out⟩
set_option maxRecDepth 100000 in
set_option maxHeartbeats 2000000 in
theorem vr_Doxe (s : StU RawV) (v vo : Value) (kind : Int) (id : Nat) (a : RawV) (w : World) (hs : StTold w v s) (ho : OpTold w vo kind id a) (hl : s.vers.length ≤ 1000000) (r : Int) (hk : kind ≠ 1 ∧ kind ≠ 2 ∧ kind ≠ 3 ∧ kind ≠ 4 ∧ kind ≠ 5) (hf : findV s.vers id = r) :
    Calls Try.prog 22 #[v, vo] w fun e w' => e = .returned (.tuple #[v, .agg (eR 180).toArray]) ∧ Below w.heap.size w w' := by
  obtain ⟨S, p, c, rfl, hSl, hS1, hS0, hV⟩ := st_cells hs
  obtain ⟨O, rfl, hOl, hO0, hO1, hO2, hOv⟩ := op_cells ho
  obtain ⟨B, hB⟩ : ∃ B, w.heap.size = B := ⟨_, rfl⟩
  have k0 := Blk.newAt w B hB 46 (c := S.toArray) S rfl
  have z1 : (w.alloc (.cells S.toArray 46)).heap.size = B + 1 := by simp [hB]
  have k1 := Blk.newAt _ (B + 1) z1 30 (c := O.toArray) O rfl
  have z2 : ((w.alloc (.cells S.toArray 46)).alloc (.cells O.toArray 30)).heap.size = B + 2 := by simp [hB]
  have k2 := Blk.newAt _ (B + 2) z2 46 (c := zS.toArray) zS rfl
  have z3 : (((w.alloc (.cells S.toArray 46)).alloc (.cells O.toArray 30)).alloc (.cells zS.toArray 46)).heap.size = B + 3 := by simp [hB]
  have k3 := Blk.newAt _ (B + 3) z3 39 (c := zRp.toArray) zRp rfl
  have kb := ((((Below.refl w.heap.size w).alloc (Nat.le_refl _) (.cells S.toArray 46)).alloc (by simp) (.cells O.toArray 30)).alloc (by simp; omega) (.cells zS.toArray 46)).alloc (by simp; omega) (.cells zRp.toArray 39)
  have K0 := Lib.hid (((k0.alloc (.cells O.toArray 30)).alloc (.cells zS.toArray 46)).alloc (.cells zRp.toArray 39))
  have K1 := Lib.hid ((k1.alloc (.cells zS.toArray 46)).alloc (.cells zRp.toArray 39))
  have K2 := Lib.hid (k2.alloc (.cells zRp.toArray 39))
  have K3 := Lib.hid k3
  have KB := Lib.hid kb
  have Z3 := Lib.hid z3
  have Z2 := Lib.hid z2
  have HS0 := Lib.hid hS0
  have HO0 := Lib.hid hO0
  have HO1 := Lib.hid hO1
  have HO2 := Lib.hid hO2
  have HOV := Lib.hid (hOv.below kb)
  have HSL := Lib.hid hSl
  have HOL := Lib.hid hOl
  have HSO := Lib.hid hS1
  have HV := Lib.hid (hV.below kb)
  have HF := Lib.hid hf
  have HL := Lib.hid hl
  have HSZ : Hid ((Try.prog.info? 46).map (·.size) = some S.length) := Lib.hid (by rw [size_st, hSl])
  have cl0 := K0.out.cellOf hS0
  have cl1 := K1.out.cellOf hO0
  have cl2 := K1.out.cellOf hO1
  clear k0 k1 k2 k3 kb z1 z2 z3 hS0 hO0 hO1 hO2 hOv hSl hS1 hV hf hl hs ho hOl
  generalize s.vers = L at *
  go_enter Try.func22, Try.ntmps22
  go_wp2_with (first | (refine wpList_alloc_n rfl 46 rfl (B + 2) Z2.out _ (alloc_st _) ?_) | (refine wpList_alloc_n rfl 39 rfl (B + 3) Z3.out _ (alloc_rep _) ?_))
  generalize (((w.alloc (.cells S.toArray 46)).alloc (.cells O.toArray 30)).alloc (.cells zS.toArray 46)).alloc (.cells zRp.toArray 39) = w4 at *
  clear cl0 cl1 cl2 Z2 Z3
  refine (vr_find L p c id r w4 HL.out HF.out HV.out).mono ?_
  rintro e w5 ⟨rfl, hb5⟩
  have K05 := Lib.hid (K0.out.below hb5 K0.out.lt)
  have K15 := Lib.hid (K1.out.below hb5 K1.out.lt)
  have K25 := Lib.hid (K2.out.below hb5 K2.out.lt)
  have K35 := Lib.hid (K3.out.below hb5 K3.out.lt)
  have B5 := Lib.hid (KB.out.trans (hb5.mono KB.out.size))
  have V5 := Lib.hid (HV.out.below hb5)
  have OV5 := Lib.hid (HOV.out.below hb5)
  clear K0 K1 K2 K3 KB HV HOV hb5 HF
  have cl0 := K05.out.cellOf HS0.out
  have cl1 := K15.out.cellOf HO0.out
  have cl2 := K15.out.cellOf HO1.out
  have g1 : (kind == 1) = false := by simp; exact hk.1
  have g2 : (kind == 2) = false := by simp; exact hk.2.1
  have g3 : (kind == 3) = false := by simp; exact hk.2.2.1
  have g4 : (kind == 4) = false := by simp; exact hk.2.2.2.1
  have g5 : (kind == 5) = false := by simp; exact hk.2.2.2.2
  clear hk
  go_wp2_with fail
  have HW : Hid (∀ wx, NewBut w5 wx → Calls Try.prog 34 #[.int .i64 180] wx fun x w' => x = .returned (.agg (eR 180).toArray) ∧ NewBut w5 w') := Lib.hid fun wx hx => (vr_wrong 180 wx).mono fun x w' ⟨q1, q2⟩ => ⟨q1, hx.trans (q2.mono hx.size)⟩
  have HRG : Hid (∀ wx, NewBut w5 wx → wx.rangeAt B 0 S) := Lib.hid fun wx hx => (K05.out.below hx K05.out.lt).whole
  refine region_quiet_tail (C := NewBut w5) 2 mixed (by kernel_rfl) (show Below _ _ _ from (Below.refl _ _).drew) ?_
  simp only [List.take_succ_cons, List.take_zero, List.drop_succ_cons, List.drop_zero]
  repeat (first | (refine wpQuiet_load_row rfl 46 _ rfl B 0 rfl S HRG.out Try.underlying46 rfl HSZ.out ?_) | go_big_quiet_step (fail) | (refine wpQuiet_step (fun K' hK' => ?_); go_simp; first | (refine hK' _ ?_; clear hK' K') | (refine ⟨_, fun _ _ => rfl, hK' _ ?_⟩; clear hK' K') | ((with_reducible refine ⟨_, fun wx hx => HW.out wx hx, hK' _ ?_⟩); clear hK' K')))
  refine wpQuiet_nil ?_
  intro w7 hb7
  have k27 := K25.out.below hb7 K25.out.lt
  have k37 := K35.out.below hb7 K35.out.lt
  have b7 := B5.out.trans (Below.mono hb7 B5.out.size)
  have K27 := Lib.hid k27
  have K38 := Lib.hid (k37.rowOther (show B + 3 ≠ B + 2 by omega) S.toArray)
  have M2 := Lib.hid ((k27.row S (by rw [HSL.out]; rfl)).rowOther (show B + 2 ≠ B + 3 by omega) (eR 180).toArray)
  have M3 := Lib.hid ((k37.rowOther (show B + 3 ≠ B + 2 by omega) S.toArray).row (eR 180) rfl)
  have M4 := Lib.hid (below_setRow (below_setRow b7 (show w.heap.size ≤ B + 2 by omega) S.toArray) (show w.heap.size ≤ B + 3 by omega) (eR 180).toArray)
  clear hb7 k27 k37 b7
  go_wp2_with (first | (refine wpList_store_blk rfl 46 _ _ rfl (B + 2) S rfl rfl K27.out HSZ.out (by rw [HSL.out]; rfl) HSO.out ?_) | (refine wpList_store_blk rfl 39 _ _ rfl (B + 3) (eR 180) rfl rfl K38.out (by rw [size_rep]; rfl) rfl (eR_one 180) ?_))
  refine bodyPost_ret (v := .tuple #[.agg S.toArray, .agg (eR 180).toArray]) (results_cells2 rfl _ _ (B + 2) (B + 3) rfl rfl M2.out M3.out Try.underlying46 rfl HSZ.out Try.underlying39 rfl (by rw [size_rep]; rfl)) rfl ?_
  exact ⟨rfl, M4.out⟩
set_option maxRecDepth 100000 in
set_option maxHeartbeats 2000000 in
theorem vr_Do1a (s : StU RawV) (v vo : Value) (kind : Int) (id : Nat) (a : RawV) (w : World) (hs : StTold w v s) (ho : OpTold w vo kind id a) (hl : s.vers.length ≤ 1000000) (r : Int) (hk : kind = 1) (hf : findV s.vers id = r) (ha : a.ok) (hn : a.bl.length ≤ 1000 ∧ a.ns.length ≤ 1000 ∧ a.zs.length ≤ 1000) (hm : mayH a.bl.length a.ns a.zs = false) :
    Calls Try.prog 22 #[v, vo] w fun e w' => e = .returned (.tuple #[v, .agg (eR 1).toArray]) ∧ Below w.heap.size w w' := by
  obtain ⟨S, p, c, rfl, hSl, hS1, hS0, hV⟩ := st_cells hs
  obtain ⟨O, rfl, hOl, hO0, hO1, hO2, hOv⟩ := op_cells ho
  obtain ⟨B, hB⟩ : ∃ B, w.heap.size = B := ⟨_, rfl⟩
  have k0 := Blk.newAt w B hB 46 (c := S.toArray) S rfl
  have z1 : (w.alloc (.cells S.toArray 46)).heap.size = B + 1 := by simp [hB]
  have k1 := Blk.newAt _ (B + 1) z1 30 (c := O.toArray) O rfl
  have z2 : ((w.alloc (.cells S.toArray 46)).alloc (.cells O.toArray 30)).heap.size = B + 2 := by simp [hB]
  have k2 := Blk.newAt _ (B + 2) z2 46 (c := zS.toArray) zS rfl
  have z3 : (((w.alloc (.cells S.toArray 46)).alloc (.cells O.toArray 30)).alloc (.cells zS.toArray 46)).heap.size = B + 3 := by simp [hB]
  have k3 := Blk.newAt _ (B + 3) z3 39 (c := zRp.toArray) zRp rfl
  have kb := ((((Below.refl w.heap.size w).alloc (Nat.le_refl _) (.cells S.toArray 46)).alloc (by simp) (.cells O.toArray 30)).alloc (by simp; omega) (.cells zS.toArray 46)).alloc (by simp; omega) (.cells zRp.toArray 39)
  have K0 := Lib.hid (((k0.alloc (.cells O.toArray 30)).alloc (.cells zS.toArray 46)).alloc (.cells zRp.toArray 39))
  have K1 := Lib.hid ((k1.alloc (.cells zS.toArray 46)).alloc (.cells zRp.toArray 39))
  have K2 := Lib.hid (k2.alloc (.cells zRp.toArray 39))
  have K3 := Lib.hid k3
  have KB := Lib.hid kb
  have Z3 := Lib.hid z3
  have Z2 := Lib.hid z2
  have HS0 := Lib.hid hS0
  have HO0 := Lib.hid hO0
  have HO1 := Lib.hid hO1
  have HO2 := Lib.hid hO2
  have HOV := Lib.hid (hOv.below kb)
  have HSL := Lib.hid hSl
  have HOL := Lib.hid hOl
  have HSO := Lib.hid hS1
  have HV := Lib.hid (hV.below kb)
  have HF := Lib.hid hf
  have HL := Lib.hid hl
  have HSZ : Hid ((Try.prog.info? 46).map (·.size) = some S.length) := Lib.hid (by rw [size_st, hSl])
  have cl0 := K0.out.cellOf hS0
  have cl1 := K1.out.cellOf hO0
  have cl2 := K1.out.cellOf hO1
  clear k0 k1 k2 k3 kb z1 z2 z3 hS0 hO0 hO1 hO2 hOv hSl hS1 hV hf hl hs ho hOl
  generalize s.vers = L at *
  go_enter Try.func22, Try.ntmps22
  go_wp2_with (first | (refine wpList_alloc_n rfl 46 rfl (B + 2) Z2.out _ (alloc_st _) ?_) | (refine wpList_alloc_n rfl 39 rfl (B + 3) Z3.out _ (alloc_rep _) ?_))
  generalize (((w.alloc (.cells S.toArray 46)).alloc (.cells O.toArray 30)).alloc (.cells zS.toArray 46)).alloc (.cells zRp.toArray 39) = w4 at *
  clear cl0 cl1 cl2 Z2 Z3
  refine (vr_find L p c id r w4 HL.out HF.out HV.out).mono ?_
  rintro e w5 ⟨rfl, hb5⟩
  have K05 := Lib.hid (K0.out.below hb5 K0.out.lt)
  have K15 := Lib.hid (K1.out.below hb5 K1.out.lt)
  have K25 := Lib.hid (K2.out.below hb5 K2.out.lt)
  have K35 := Lib.hid (K3.out.below hb5 K3.out.lt)
  have B5 := Lib.hid (KB.out.trans (hb5.mono KB.out.size))
  have V5 := Lib.hid (HV.out.below hb5)
  have OV5 := Lib.hid (HOV.out.below hb5)
  clear K0 K1 K2 K3 KB HV HOV hb5 HF
  have cl0 := K05.out.cellOf HS0.out
  have cl1 := K15.out.cellOf HO0.out
  have cl2 := K15.out.cellOf HO1.out
  subst hk
  have HLC : Hid (∀ j x, (O.drop 2)[j]? = some x → w5.cell? ((⟨B + 1, 2, none⟩ : Addr).add j) = some x) := Lib.hid fun j x hx => by
    rw [List.getElem?_drop] at hx
    rw [Addr.add_mid]
    exact K15.out.cellOf hx
  have HMY := Lib.hid (hr_May a (.agg (O.drop 2).toArray) false w5 hm OV5.out ha.2.2.1 hn.1 hn.2.1 hn.2.2)
  clear hm ha hn
  go_wp2_with (refine wpList_load_addr rfl 28 _ rfl ⟨B + 1, 2, none⟩ rfl (O.drop 2) HLC.out Try.underlying28 rfl (by rw [size_ver, List.length_drop, HOL.out]) ?_)
  refine HMY.out.mono ?_
  rintro e w6 ⟨rfl, hb6⟩
  clear cl0 cl1 cl2 HLC HMY
  have K06 := Lib.hid (K05.out.below hb6 K05.out.lt)
  have K16 := Lib.hid (K15.out.below hb6 K15.out.lt)
  have K26 := Lib.hid (K25.out.below hb6 K25.out.lt)
  have K36 := Lib.hid (K35.out.below hb6 K35.out.lt)
  have B6 := Lib.hid (B5.out.trans (hb6.mono B5.out.size))
  have V6 := Lib.hid (V5.out.below hb6)
  have OV6 := Lib.hid (OV5.out.below hb6)
  clear K05 K15 K25 K35 B5 V5 OV5 hb6
  have cl0 := K06.out.cellOf HS0.out
  have cl1 := K16.out.cellOf HO0.out
  have cl2 := K16.out.cellOf HO1.out
  have cl3 := K16.out.cellOf HO2.out
  go_wp2_with fail
  have HW : Hid (∀ wx, NewBut w6 wx → Calls Try.prog 34 #[.int .i64 1] wx fun x w' => x = .returned (.agg (eR 1).toArray) ∧ NewBut w6 w') := Lib.hid fun wx hx => (vr_wrong 1 wx).mono fun x w' ⟨q1, q2⟩ => ⟨q1, hx.trans (q2.mono hx.size)⟩
  have HRG : Hid (∀ wx, NewBut w6 wx → wx.rangeAt B 0 S) := Lib.hid fun wx hx => (K06.out.below hx K06.out.lt).whole
  refine region_quiet_tail (C := NewBut w6) 2 mixed (by kernel_rfl) (show Below _ _ _ from (Below.refl _ _).drew) ?_
  simp only [List.take_succ_cons, List.take_zero, List.drop_succ_cons, List.drop_zero]
  repeat (first | (refine wpQuiet_load_row rfl 46 _ rfl B 0 rfl S HRG.out Try.underlying46 rfl HSZ.out ?_) | go_big_quiet_step (fail) | (refine wpQuiet_step (fun K' hK' => ?_); go_simp; first | (refine hK' _ ?_; clear hK' K') | (refine ⟨_, fun _ _ => rfl, hK' _ ?_⟩; clear hK' K') | ((with_reducible refine ⟨_, fun wx hx => HW.out wx hx, hK' _ ?_⟩); clear hK' K')))
  refine wpQuiet_nil ?_
  intro w7 hb7
  have k27 := K26.out.below hb7 K26.out.lt
  have k37 := K36.out.below hb7 K36.out.lt
  have b7 := B6.out.trans (Below.mono hb7 B6.out.size)
  have K27 := Lib.hid k27
  have K38 := Lib.hid (k37.rowOther (show B + 3 ≠ B + 2 by omega) S.toArray)
  have M2 := Lib.hid ((k27.row S (by rw [HSL.out]; rfl)).rowOther (show B + 2 ≠ B + 3 by omega) (eR 1).toArray)
  have M3 := Lib.hid ((k37.rowOther (show B + 3 ≠ B + 2 by omega) S.toArray).row (eR 1) rfl)
  have M4 := Lib.hid (below_setRow (below_setRow b7 (show w.heap.size ≤ B + 2 by omega) S.toArray) (show w.heap.size ≤ B + 3 by omega) (eR 1).toArray)
  clear hb7 k27 k37 b7
  go_wp2_with (first | (refine wpList_store_blk rfl 46 _ _ rfl (B + 2) S rfl rfl K27.out HSZ.out (by rw [HSL.out]; rfl) HSO.out ?_) | (refine wpList_store_blk rfl 39 _ _ rfl (B + 3) (eR 1) rfl rfl K38.out (by rw [size_rep]; rfl) rfl (eR_one 1) ?_))
  refine bodyPost_ret (v := .tuple #[.agg S.toArray, .agg (eR 1).toArray]) (results_cells2 rfl _ _ (B + 2) (B + 3) rfl rfl M2.out M3.out Try.underlying46 rfl HSZ.out Try.underlying39 rfl (by rw [size_rep]; rfl)) rfl ?_
  exact ⟨rfl, M4.out⟩
set_option maxRecDepth 100000 in
set_option maxHeartbeats 2000000 in
theorem vr_Do1t (s : StU RawV) (v vo : Value) (kind : Int) (id : Nat) (a : RawV) (w : World) (hs : StTold w v s) (ho : OpTold w vo kind id a) (hl : s.vers.length ≤ 1000000) (r q : Int) (hk : kind = 1) (hf : findV s.vers id = r) (ha : a.ok) (hn : a.bl.length ≤ 1000 ∧ a.ns.length ≤ 1000 ∧ a.zs.length ≤ 1000) (hm : mayH a.bl.length a.ns a.zs = true) (hf2 : findV s.vers a.id = q) (hq : 0 ≤ q) :
    Calls Try.prog 22 #[v, vo] w fun e w' => e = .returned (.tuple #[v, .agg (eR 4).toArray]) ∧ Below w.heap.size w w' := by
  obtain ⟨S, p, c, rfl, hSl, hS1, hS0, hV⟩ := st_cells hs
  obtain ⟨O, rfl, hOl, hO0, hO1, hO2, hOv⟩ := op_cells ho
  obtain ⟨B, hB⟩ : ∃ B, w.heap.size = B := ⟨_, rfl⟩
  have k0 := Blk.newAt w B hB 46 (c := S.toArray) S rfl
  have z1 : (w.alloc (.cells S.toArray 46)).heap.size = B + 1 := by simp [hB]
  have k1 := Blk.newAt _ (B + 1) z1 30 (c := O.toArray) O rfl
  have z2 : ((w.alloc (.cells S.toArray 46)).alloc (.cells O.toArray 30)).heap.size = B + 2 := by simp [hB]
  have k2 := Blk.newAt _ (B + 2) z2 46 (c := zS.toArray) zS rfl
  have z3 : (((w.alloc (.cells S.toArray 46)).alloc (.cells O.toArray 30)).alloc (.cells zS.toArray 46)).heap.size = B + 3 := by simp [hB]
  have k3 := Blk.newAt _ (B + 3) z3 39 (c := zRp.toArray) zRp rfl
  have kb := ((((Below.refl w.heap.size w).alloc (Nat.le_refl _) (.cells S.toArray 46)).alloc (by simp) (.cells O.toArray 30)).alloc (by simp; omega) (.cells zS.toArray 46)).alloc (by simp; omega) (.cells zRp.toArray 39)
  have K0 := Lib.hid (((k0.alloc (.cells O.toArray 30)).alloc (.cells zS.toArray 46)).alloc (.cells zRp.toArray 39))
  have K1 := Lib.hid ((k1.alloc (.cells zS.toArray 46)).alloc (.cells zRp.toArray 39))
  have K2 := Lib.hid (k2.alloc (.cells zRp.toArray 39))
  have K3 := Lib.hid k3
  have KB := Lib.hid kb
  have Z3 := Lib.hid z3
  have Z2 := Lib.hid z2
  have HS0 := Lib.hid hS0
  have HO0 := Lib.hid hO0
  have HO1 := Lib.hid hO1
  have HO2 := Lib.hid hO2
  have HOV := Lib.hid (hOv.below kb)
  have HSL := Lib.hid hSl
  have HOL := Lib.hid hOl
  have HSO := Lib.hid hS1
  have HV := Lib.hid (hV.below kb)
  have HF := Lib.hid hf
  have HL := Lib.hid hl
  have HSZ : Hid ((Try.prog.info? 46).map (·.size) = some S.length) := Lib.hid (by rw [size_st, hSl])
  have cl0 := K0.out.cellOf hS0
  have cl1 := K1.out.cellOf hO0
  have cl2 := K1.out.cellOf hO1
  have HF2 := Lib.hid hf2
  clear hf2
  clear k0 k1 k2 k3 kb z1 z2 z3 hS0 hO0 hO1 hO2 hOv hSl hS1 hV hf hl hs ho hOl
  generalize s.vers = L at *
  go_enter Try.func22, Try.ntmps22
  go_wp2_with (first | (refine wpList_alloc_n rfl 46 rfl (B + 2) Z2.out _ (alloc_st _) ?_) | (refine wpList_alloc_n rfl 39 rfl (B + 3) Z3.out _ (alloc_rep _) ?_))
  generalize (((w.alloc (.cells S.toArray 46)).alloc (.cells O.toArray 30)).alloc (.cells zS.toArray 46)).alloc (.cells zRp.toArray 39) = w4 at *
  clear cl0 cl1 cl2 Z2 Z3
  refine (vr_find L p c id r w4 HL.out HF.out HV.out).mono ?_
  rintro e w5 ⟨rfl, hb5⟩
  have K05 := Lib.hid (K0.out.below hb5 K0.out.lt)
  have K15 := Lib.hid (K1.out.below hb5 K1.out.lt)
  have K25 := Lib.hid (K2.out.below hb5 K2.out.lt)
  have K35 := Lib.hid (K3.out.below hb5 K3.out.lt)
  have B5 := Lib.hid (KB.out.trans (hb5.mono KB.out.size))
  have V5 := Lib.hid (HV.out.below hb5)
  have OV5 := Lib.hid (HOV.out.below hb5)
  clear K0 K1 K2 K3 KB HV HOV hb5 HF
  have cl0 := K05.out.cellOf HS0.out
  have cl1 := K15.out.cellOf HO0.out
  have cl2 := K15.out.cellOf HO1.out
  subst hk
  have HLC : Hid (∀ j x, (O.drop 2)[j]? = some x → w5.cell? ((⟨B + 1, 2, none⟩ : Addr).add j) = some x) := Lib.hid fun j x hx => by
    rw [List.getElem?_drop] at hx
    rw [Addr.add_mid]
    exact K15.out.cellOf hx
  have HMY := Lib.hid (hr_May a (.agg (O.drop 2).toArray) true w5 hm OV5.out ha.2.2.1 hn.1 hn.2.1 hn.2.2)
  clear hm ha hn
  go_wp2_with (refine wpList_load_addr rfl 28 _ rfl ⟨B + 1, 2, none⟩ rfl (O.drop 2) HLC.out Try.underlying28 rfl (by rw [size_ver, List.length_drop, HOL.out]) ?_)
  refine HMY.out.mono ?_
  rintro e w6 ⟨rfl, hb6⟩
  clear cl0 cl1 cl2 HLC HMY
  have K06 := Lib.hid (K05.out.below hb6 K05.out.lt)
  have K16 := Lib.hid (K15.out.below hb6 K15.out.lt)
  have K26 := Lib.hid (K25.out.below hb6 K25.out.lt)
  have K36 := Lib.hid (K35.out.below hb6 K35.out.lt)
  have B6 := Lib.hid (B5.out.trans (hb6.mono B5.out.size))
  have V6 := Lib.hid (V5.out.below hb6)
  have OV6 := Lib.hid (OV5.out.below hb6)
  clear K05 K15 K25 K35 B5 V5 OV5 hb6
  have cl0 := K06.out.cellOf HS0.out
  have cl1 := K16.out.cellOf HO0.out
  have cl2 := K16.out.cellOf HO1.out
  have cl3 := K16.out.cellOf HO2.out
  go_wp2_with fail
  refine (vr_find L p c a.id q w6 HL.out HF2.out V6.out).mono ?_
  rintro e w8 ⟨rfl, hb8⟩
  clear cl0 cl1 cl2 cl3
  have K08 := Lib.hid (K06.out.below hb8 K06.out.lt)
  have K18 := Lib.hid (K16.out.below hb8 K16.out.lt)
  have K28 := Lib.hid (K26.out.below hb8 K26.out.lt)
  have K38 := Lib.hid (K36.out.below hb8 K36.out.lt)
  have B8 := Lib.hid (B6.out.trans (hb8.mono B6.out.size))
  have V8 := Lib.hid (V6.out.below hb8)
  have OV8 := Lib.hid (OV6.out.below hb8)
  clear K06 K16 K26 K36 B6 V6 OV6 hb8
  have cl0 := K08.out.cellOf HS0.out
  have cl1 := K18.out.cellOf HO0.out
  have cl2 := K18.out.cellOf HO1.out
  have cl3 := K18.out.cellOf HO2.out
  have g1 : (0 : Int) ≤ q := hq
  clear hq
  go_wp2_with fail
  have HW : Hid (∀ wx, NewBut w8 wx → Calls Try.prog 34 #[.int .i64 4] wx fun x w' => x = .returned (.agg (eR 4).toArray) ∧ NewBut w8 w') := Lib.hid fun wx hx => (vr_wrong 4 wx).mono fun x w' ⟨q1, q2⟩ => ⟨q1, hx.trans (q2.mono hx.size)⟩
  have HRG : Hid (∀ wx, NewBut w8 wx → wx.rangeAt B 0 S) := Lib.hid fun wx hx => (K08.out.below hx K08.out.lt).whole
  refine region_quiet_tail (C := NewBut w8) 2 mixed (by kernel_rfl) (show Below _ _ _ from (Below.refl _ _).drew) ?_
  simp only [List.take_succ_cons, List.take_zero, List.drop_succ_cons, List.drop_zero]
  repeat (first | (refine wpQuiet_load_row rfl 46 _ rfl B 0 rfl S HRG.out Try.underlying46 rfl HSZ.out ?_) | go_big_quiet_step (fail) | (refine wpQuiet_step (fun K' hK' => ?_); go_simp; first | (refine hK' _ ?_; clear hK' K') | (refine ⟨_, fun _ _ => rfl, hK' _ ?_⟩; clear hK' K') | ((with_reducible refine ⟨_, fun wx hx => HW.out wx hx, hK' _ ?_⟩); clear hK' K')))
  refine wpQuiet_nil ?_
  intro w7 hb7
  have k27 := K28.out.below hb7 K28.out.lt
  have k37 := K38.out.below hb7 K38.out.lt
  have b7 := B8.out.trans (Below.mono hb7 B8.out.size)
  have K27 := Lib.hid k27
  have K39 := Lib.hid (k37.rowOther (show B + 3 ≠ B + 2 by omega) S.toArray)
  have M2 := Lib.hid ((k27.row S (by rw [HSL.out]; rfl)).rowOther (show B + 2 ≠ B + 3 by omega) (eR 4).toArray)
  have M3 := Lib.hid ((k37.rowOther (show B + 3 ≠ B + 2 by omega) S.toArray).row (eR 4) rfl)
  have M4 := Lib.hid (below_setRow (below_setRow b7 (show w.heap.size ≤ B + 2 by omega) S.toArray) (show w.heap.size ≤ B + 3 by omega) (eR 4).toArray)
  clear hb7 k27 k37 b7
  go_wp2_with (first | (refine wpList_store_blk rfl 46 _ _ rfl (B + 2) S rfl rfl K27.out HSZ.out (by rw [HSL.out]; rfl) HSO.out ?_) | (refine wpList_store_blk rfl 39 _ _ rfl (B + 3) (eR 4) rfl rfl K39.out (by rw [size_rep]; rfl) rfl (eR_one 4) ?_))
  refine bodyPost_ret (v := .tuple #[.agg S.toArray, .agg (eR 4).toArray]) (results_cells2 rfl _ _ (B + 2) (B + 3) rfl rfl M2.out M3.out Try.underlying46 rfl HSZ.out Try.underlying39 rfl (by rw [size_rep]; rfl)) rfl ?_
  exact ⟨rfl, M4.out⟩
set_option maxRecDepth 100000 in
set_option maxHeartbeats 2000000 in
theorem vr_Do1f (s : StU RawV) (v vo : Value) (kind : Int) (id : Nat) (a : RawV) (w : World) (hs : StTold w v s) (ho : OpTold w vo kind id a) (hl : s.vers.length ≤ 1000000) (r : Int) (hk : kind = 1) (hf : findV s.vers id = r) (ha : a.ok) (hn : a.bl.length ≤ 1000 ∧ a.ns.length ≤ 1000 ∧ a.zs.length ≤ 1000) (hm : mayH a.bl.length a.ns a.zs = true) (hf2 : findV s.vers a.id = -1) (hq : 8 ≤ s.vers.length) :
    Calls Try.prog 22 #[v, vo] w fun e w' => e = .returned (.tuple #[v, .agg (eR 2).toArray]) ∧ Below w.heap.size w w' := by
  obtain ⟨S, p, c, rfl, hSl, hS1, hS0, hV⟩ := st_cells hs
  obtain ⟨O, rfl, hOl, hO0, hO1, hO2, hOv⟩ := op_cells ho
  obtain ⟨B, hB⟩ : ∃ B, w.heap.size = B := ⟨_, rfl⟩
  have k0 := Blk.newAt w B hB 46 (c := S.toArray) S rfl
  have z1 : (w.alloc (.cells S.toArray 46)).heap.size = B + 1 := by simp [hB]
  have k1 := Blk.newAt _ (B + 1) z1 30 (c := O.toArray) O rfl
  have z2 : ((w.alloc (.cells S.toArray 46)).alloc (.cells O.toArray 30)).heap.size = B + 2 := by simp [hB]
  have k2 := Blk.newAt _ (B + 2) z2 46 (c := zS.toArray) zS rfl
  have z3 : (((w.alloc (.cells S.toArray 46)).alloc (.cells O.toArray 30)).alloc (.cells zS.toArray 46)).heap.size = B + 3 := by simp [hB]
  have k3 := Blk.newAt _ (B + 3) z3 39 (c := zRp.toArray) zRp rfl
  have kb := ((((Below.refl w.heap.size w).alloc (Nat.le_refl _) (.cells S.toArray 46)).alloc (by simp) (.cells O.toArray 30)).alloc (by simp; omega) (.cells zS.toArray 46)).alloc (by simp; omega) (.cells zRp.toArray 39)
  have K0 := Lib.hid (((k0.alloc (.cells O.toArray 30)).alloc (.cells zS.toArray 46)).alloc (.cells zRp.toArray 39))
  have K1 := Lib.hid ((k1.alloc (.cells zS.toArray 46)).alloc (.cells zRp.toArray 39))
  have K2 := Lib.hid (k2.alloc (.cells zRp.toArray 39))
  have K3 := Lib.hid k3
  have KB := Lib.hid kb
  have Z3 := Lib.hid z3
  have Z2 := Lib.hid z2
  have HS0 := Lib.hid hS0
  have HO0 := Lib.hid hO0
  have HO1 := Lib.hid hO1
  have HO2 := Lib.hid hO2
  have HOV := Lib.hid (hOv.below kb)
  have HSL := Lib.hid hSl
  have HOL := Lib.hid hOl
  have HSO := Lib.hid hS1
  have HV := Lib.hid (hV.below kb)
  have HF := Lib.hid hf
  have HL := Lib.hid hl
  have HSZ : Hid ((Try.prog.info? 46).map (·.size) = some S.length) := Lib.hid (by rw [size_st, hSl])
  have cl0 := K0.out.cellOf hS0
  have cl1 := K1.out.cellOf hO0
  have cl2 := K1.out.cellOf hO1
  have HF2 := Lib.hid hf2
  clear hf2
  clear k0 k1 k2 k3 kb z1 z2 z3 hS0 hO0 hO1 hO2 hOv hSl hS1 hV hf hl hs ho hOl
  generalize s.vers = L at *
  go_enter Try.func22, Try.ntmps22
  go_wp2_with (first | (refine wpList_alloc_n rfl 46 rfl (B + 2) Z2.out _ (alloc_st _) ?_) | (refine wpList_alloc_n rfl 39 rfl (B + 3) Z3.out _ (alloc_rep _) ?_))
  generalize (((w.alloc (.cells S.toArray 46)).alloc (.cells O.toArray 30)).alloc (.cells zS.toArray 46)).alloc (.cells zRp.toArray 39) = w4 at *
  clear cl0 cl1 cl2 Z2 Z3
  refine (vr_find L p c id r w4 HL.out HF.out HV.out).mono ?_
  rintro e w5 ⟨rfl, hb5⟩
  have K05 := Lib.hid (K0.out.below hb5 K0.out.lt)
  have K15 := Lib.hid (K1.out.below hb5 K1.out.lt)
  have K25 := Lib.hid (K2.out.below hb5 K2.out.lt)
  have K35 := Lib.hid (K3.out.below hb5 K3.out.lt)
  have B5 := Lib.hid (KB.out.trans (hb5.mono KB.out.size))
  have V5 := Lib.hid (HV.out.below hb5)
  have OV5 := Lib.hid (HOV.out.below hb5)
  clear K0 K1 K2 K3 KB HV HOV hb5 HF
  have cl0 := K05.out.cellOf HS0.out
  have cl1 := K15.out.cellOf HO0.out
  have cl2 := K15.out.cellOf HO1.out
  subst hk
  have HLC : Hid (∀ j x, (O.drop 2)[j]? = some x → w5.cell? ((⟨B + 1, 2, none⟩ : Addr).add j) = some x) := Lib.hid fun j x hx => by
    rw [List.getElem?_drop] at hx
    rw [Addr.add_mid]
    exact K15.out.cellOf hx
  have HMY := Lib.hid (hr_May a (.agg (O.drop 2).toArray) true w5 hm OV5.out ha.2.2.1 hn.1 hn.2.1 hn.2.2)
  clear hm ha hn
  go_wp2_with (refine wpList_load_addr rfl 28 _ rfl ⟨B + 1, 2, none⟩ rfl (O.drop 2) HLC.out Try.underlying28 rfl (by rw [size_ver, List.length_drop, HOL.out]) ?_)
  refine HMY.out.mono ?_
  rintro e w6 ⟨rfl, hb6⟩
  clear cl0 cl1 cl2 HLC HMY
  have K06 := Lib.hid (K05.out.below hb6 K05.out.lt)
  have K16 := Lib.hid (K15.out.below hb6 K15.out.lt)
  have K26 := Lib.hid (K25.out.below hb6 K25.out.lt)
  have K36 := Lib.hid (K35.out.below hb6 K35.out.lt)
  have B6 := Lib.hid (B5.out.trans (hb6.mono B5.out.size))
  have V6 := Lib.hid (V5.out.below hb6)
  have OV6 := Lib.hid (OV5.out.below hb6)
  clear K05 K15 K25 K35 B5 V5 OV5 hb6
  have cl0 := K06.out.cellOf HS0.out
  have cl1 := K16.out.cellOf HO0.out
  have cl2 := K16.out.cellOf HO1.out
  have cl3 := K16.out.cellOf HO2.out
  go_wp2_with fail
  refine (vr_find L p c a.id (-1) w6 HL.out HF2.out V6.out).mono ?_
  rintro e w8 ⟨rfl, hb8⟩
  clear cl0 cl1 cl2 cl3
  have K08 := Lib.hid (K06.out.below hb8 K06.out.lt)
  have K18 := Lib.hid (K16.out.below hb8 K16.out.lt)
  have K28 := Lib.hid (K26.out.below hb8 K26.out.lt)
  have K38 := Lib.hid (K36.out.below hb8 K36.out.lt)
  have B8 := Lib.hid (B6.out.trans (hb8.mono B6.out.size))
  have V8 := Lib.hid (V6.out.below hb8)
  have OV8 := Lib.hid (OV6.out.below hb8)
  clear K06 K16 K26 K36 B6 V6 OV6 hb8
  have cl0 := K08.out.cellOf HS0.out
  have cl1 := K18.out.cellOf HO0.out
  have cl2 := K18.out.cellOf HO1.out
  have cl3 := K18.out.cellOf HO2.out
  have g1 : (8 : Int) ≤ (L.length : Int) := by omega
  clear hq
  go_wp2_with fail
  have HW : Hid (∀ wx, NewBut w8 wx → Calls Try.prog 34 #[.int .i64 2] wx fun x w' => x = .returned (.agg (eR 2).toArray) ∧ NewBut w8 w') := Lib.hid fun wx hx => (vr_wrong 2 wx).mono fun x w' ⟨q1, q2⟩ => ⟨q1, hx.trans (q2.mono hx.size)⟩
  have HRG : Hid (∀ wx, NewBut w8 wx → wx.rangeAt B 0 S) := Lib.hid fun wx hx => (K08.out.below hx K08.out.lt).whole
  refine region_quiet_tail (C := NewBut w8) 2 mixed (by kernel_rfl) (show Below _ _ _ from (Below.refl _ _).drew) ?_
  simp only [List.take_succ_cons, List.take_zero, List.drop_succ_cons, List.drop_zero]
  repeat (first | (refine wpQuiet_load_row rfl 46 _ rfl B 0 rfl S HRG.out Try.underlying46 rfl HSZ.out ?_) | go_big_quiet_step (fail) | (refine wpQuiet_step (fun K' hK' => ?_); go_simp; first | (refine hK' _ ?_; clear hK' K') | (refine ⟨_, fun _ _ => rfl, hK' _ ?_⟩; clear hK' K') | ((with_reducible refine ⟨_, fun wx hx => HW.out wx hx, hK' _ ?_⟩); clear hK' K')))
  refine wpQuiet_nil ?_
  intro w7 hb7
  have k27 := K28.out.below hb7 K28.out.lt
  have k37 := K38.out.below hb7 K38.out.lt
  have b7 := B8.out.trans (Below.mono hb7 B8.out.size)
  have K27 := Lib.hid k27
  have K39 := Lib.hid (k37.rowOther (show B + 3 ≠ B + 2 by omega) S.toArray)
  have M2 := Lib.hid ((k27.row S (by rw [HSL.out]; rfl)).rowOther (show B + 2 ≠ B + 3 by omega) (eR 2).toArray)
  have M3 := Lib.hid ((k37.rowOther (show B + 3 ≠ B + 2 by omega) S.toArray).row (eR 2) rfl)
  have M4 := Lib.hid (below_setRow (below_setRow b7 (show w.heap.size ≤ B + 2 by omega) S.toArray) (show w.heap.size ≤ B + 3 by omega) (eR 2).toArray)
  clear hb7 k27 k37 b7
  go_wp2_with (first | (refine wpList_store_blk rfl 46 _ _ rfl (B + 2) S rfl rfl K27.out HSZ.out (by rw [HSL.out]; rfl) HSO.out ?_) | (refine wpList_store_blk rfl 39 _ _ rfl (B + 3) (eR 2) rfl rfl K39.out (by rw [size_rep]; rfl) rfl (eR_one 2) ?_))
  refine bodyPost_ret (v := .tuple #[.agg S.toArray, .agg (eR 2).toArray]) (results_cells2 rfl _ _ (B + 2) (B + 3) rfl rfl M2.out M3.out Try.underlying46 rfl HSZ.out Try.underlying39 rfl (by rw [size_rep]; rfl)) rfl ?_
  exact ⟨rfl, M4.out⟩
end Go.Proofs.Ytogonbgelaehhaa
namespace Go.Proofs.Ytogonbgelaehhaa
open Go.RowKit
set_option linter.unusedVariables false

/-- other versions in a state -/
theorem st_set {w w' : World} {S : List Value} {s : StU RawV} (h : StTold w (.agg S.toArray) s) (hb : Below w.heap.size w w') {v' : Value} {l' : List RawV} (hv : VsV w' v' l') :
    StTold w' (.agg (S.set 0 v').toArray) ⟨l', s.seqs, s.last⟩ ∧ (S.set 0 v').toArray.all (·.oneCell') = true ∧ (S.set 0 v').length = 22 := by
  obtain ⟨vv, s0, s1, s2, r0, r1, r2, x0, x1, x2, e, h1, h2, h3, h4, h5, h6, h7⟩ := h
  have e' : S = cellsS vv s0 s1 s2 r0 r1 r2 := by
    have := congrArg (fun v => match v with | Value.agg c => c.toList | _ => []) e
    simpa using this
  subst e'
  obtain ⟨p, c, rfl⟩ := hv.isSlice
  have h8 := cellsS_one (vv := .slice p l'.length c) (s0 := s0) (s1 := s1) (s2 := s2) ⟨_, _, _, rfl⟩ (h5.below hb) (h6.below hb) (h7.below hb)
  exact ⟨⟨_, s0, s1, s2, r0, r1, r2, x0, x1, x2, rfl, hv, h2, h3, h4, h5.below hb, h6.below hb, h7.below hb⟩, h8.1, h8.2⟩
theorem OwnR.nilOk {w : World} {base : Nat} {e : TypeId} {k : Nat} {v : Value} {rows : List (List Value)} (h : OwnR w base e k v rows) : NilOk v := by
  rcases h.2.2 with ⟨hv, hn⟩ | ⟨g, cap, cur, hv, _, _, hc, _⟩
  · exact .inl hv
  · exact .inr ⟨_, _, _, hv, hc⟩
theorem OwnR.vs {w : World} {base : Nat} {e : TypeId} {v : Value} {rows : List (List Value)} {l : List RawV} (h : OwnR w base e 4 v rows) (ht : TellVs w rows l) : VsV w v l := ⟨⟨rows, h.sl, ht⟩, h.nilOk⟩
theorem info_verV : (Try.prog.info? 28).map (fun i => (i.zero, i.size, i.bytes)) = some (some (.agg zV.toArray), 4, 80) := by kernel_rfl
set_option maxRecDepth 100000 in
theorem put_end {w w12 : World} {B base : Nat} {S R : List Value} {s : StU RawV} {L' : List RawV} {rows' : List (List Value)} {v : Value} {lo : Nat} (hB : w.heap.size ≤ B) (hst : StTold (er lo w) (.agg S.toArray) s) (hbw : Below w.heap.size w w12)
    (k0 : Blk w12 B 46 S) (k2 : Blk w12 (B + 2) 46 zS) (k3 : Blk w12 (B + 3) 39 zRp) (hlt : B + 3 < base) (ho : OwnR w12 base 28 4 v rows') (ht : TellVs (er lo w) rows' L') (hR : R.length = 6) :
    Blk (w12.setCell ⟨B, 0, none⟩ v) B 46 (S.set 0 v) ∧ Blk (w12.setCell ⟨B, 0, none⟩ v) (B + 2) 46 zS ∧
    Blk ((w12.setCell ⟨B, 0, none⟩ v).setRow (B + 2) (S.set 0 v).toArray) (B + 3) 39 zRp ∧
    Blk (((w12.setCell ⟨B, 0, none⟩ v).setRow (B + 2) (S.set 0 v).toArray).setRow (B + 3) R.toArray) (B + 2) 46 (S.set 0 v) ∧
    Blk (((w12.setCell ⟨B, 0, none⟩ v).setRow (B + 2) (S.set 0 v).toArray).setRow (B + 3) R.toArray) (B + 3) 39 R ∧
    (S.set 0 v).toArray.all (·.oneCell') = true ∧ (S.set 0 v).length = 22 ∧
    StTold (er lo (((w12.setCell ⟨B, 0, none⟩ v).setRow (B + 2) (S.set 0 v).toArray).setRow (B + 3) R.toArray)) (.agg (S.set 0 v).toArray) ⟨L', s.seqs, s.last⟩ ∧
    Below w.heap.size w (((w12.setCell ⟨B, 0, none⟩ v).setRow (B + 2) (S.set 0 v).toArray).setRow (B + 3) R.toArray) := by
  have m0 := k0.set 0 v
  have m2 := k2.other (a := ⟨B, 0, none⟩) (show B ≠ B + 2 by omega) v
  have m3 := k3.other (a := ⟨B, 0, none⟩) (show B ≠ B + 3 by omega) v
  have h13 := hbw.setCell (p := ⟨B, 0, none⟩) hB v
  have h15 := below_setRow (below_setRow h13 (show w.heap.size ≤ B + 2 by omega) (S.set 0 v).toArray) (show w.heap.size ≤ B + 3 by omega) R.toArray
  have o13 := ho.cellOther k0 (by decide) 0 v
  have hlo : ∀ b, v.ownBlock = some b → b ≠ B + 2 ∧ b ≠ B + 3 := fun b e => by have := (ho.lt b e).1; omega
  have o15 := (o13.rowApart (B + 2) (S.set 0 v).toArray (fun b e => (hlo b e).1)).rowApart (B + 3) R.toArray (fun b e => (hlo b e).2)
  have h15e := er_belowS lo h15
  have st := st_set hst h15e ((own_er lo o15 (by decide)).vs (ht.below h15e))
  have hl : (S.set 0 v).length = zS.length := st.2.2
  exact ⟨m0, m2, m3.rowOther (show B + 3 ≠ B + 2 by omega) _, (m2.row _ hl).rowOther (show B + 2 ≠ B + 3 by omega) _, (m3.rowOther (show B + 3 ≠ B + 2 by omega) _).row R (by rw [hR]; rfl), st.2.1, st.2.2, st.1, h15⟩
def DoRet (lo : Nat) (s : StU RawV) (L' : List RawV) (x : RepU RawV) (w : World) (e : Ending) (w' : World) : Prop :=
  ∃ v' r, e = .returned (.tuple #[v', .agg r.toArray]) ∧ StTold (er lo w') v' ⟨L', s.seqs, s.last⟩ ∧ RepOkV (er lo w') r x ∧ Below w.heap.size w w'
set_option maxRecDepth 100000 in
set_option maxHeartbeats 4000000 in
theorem vr_Do1 (s : StU RawV) (v vo : Value) (kind : Int) (id : Nat) (a : RawV) (w : World) (lo : Nat) (hlo : lo ≤ w.heap.size) (hs : StTold (er lo w) v s) (ho : OpTold (er lo w) vo kind id a) (hl : s.vers.length ≤ 1000000) (r : Int) (hk : kind = 1) (hf : findV s.vers id = r) (ha : a.ok) (hn : a.bl.length ≤ 1000 ∧ a.ns.length ≤ 1000 ∧ a.zs.length ≤ 1000) (hm : mayH a.bl.length a.ns a.zs = true) (hf2 : findV s.vers a.id = -1) (hq : s.vers.length < 8) :
    Calls Try.prog 22 #[v, vo] w (DoRet lo s (s.vers ++ [a]) ⟨0, [], noV⟩ w) := by
  obtain ⟨i0, hi0, hz0, hz1, hz2⟩ := info_parts2 info_verV
  obtain ⟨S, p, c, rfl, hSl, hS1, hS0, hV⟩ := st_cells hs
  obtain ⟨O, rfl, hOl, hO0, hO1, hO2, hOv⟩ := op_cells ho
  have hVe := hV
  have hOve := hOv
  replace hV := hV.sub (er_sub lo w)
  replace hOv := hOv.sub (er_sub lo w)
  obtain ⟨B, hB⟩ : ∃ B, w.heap.size = B := ⟨_, rfl⟩
  have k0 := Blk.newAt w B hB 46 (c := S.toArray) S rfl
  have z1 : (w.alloc (.cells S.toArray 46)).heap.size = B + 1 := by simp [hB]
  have k1 := Blk.newAt _ (B + 1) z1 30 (c := O.toArray) O rfl
  have z2 : ((w.alloc (.cells S.toArray 46)).alloc (.cells O.toArray 30)).heap.size = B + 2 := by simp [hB]
  have k2 := Blk.newAt _ (B + 2) z2 46 (c := zS.toArray) zS rfl
  have z3 : (((w.alloc (.cells S.toArray 46)).alloc (.cells O.toArray 30)).alloc (.cells zS.toArray 46)).heap.size = B + 3 := by simp [hB]
  have k3 := Blk.newAt _ (B + 3) z3 39 (c := zRp.toArray) zRp rfl
  have kb := ((((Below.refl w.heap.size w).alloc (Nat.le_refl _) (.cells S.toArray 46)).alloc (by simp) (.cells O.toArray 30)).alloc (by simp; omega) (.cells zS.toArray 46)).alloc (by simp; omega) (.cells zRp.toArray 39)
  have K0 := Lib.hid (((k0.alloc (.cells O.toArray 30)).alloc (.cells zS.toArray 46)).alloc (.cells zRp.toArray 39))
  have K1 := Lib.hid ((k1.alloc (.cells zS.toArray 46)).alloc (.cells zRp.toArray 39))
  have K2 := Lib.hid (k2.alloc (.cells zRp.toArray 39))
  have K3 := Lib.hid k3
  have KB := Lib.hid kb
  have Z3 := Lib.hid z3
  have Z2 := Lib.hid z2
  have HS0 := Lib.hid hS0
  have HO0 := Lib.hid hO0
  have HO1 := Lib.hid hO1
  have HO2 := Lib.hid hO2
  have HOV := Lib.hid (hOv.below kb)
  have HSL := Lib.hid hSl
  have HOL := Lib.hid hOl
  have HSO := Lib.hid hS1
  have HV := Lib.hid (hV.below kb)
  have HF := Lib.hid hf
  have HV0 := Lib.hid hVe
  have HOV0 := Lib.hid hOve
  have HST := Lib.hid hs
  have HL := Lib.hid hl
  have HSZ : Hid ((Try.prog.info? 46).map (·.size) = some S.length) := Lib.hid (by rw [size_st, hSl])
  have cl0 := K0.out.cellOf hS0
  have cl1 := K1.out.cellOf hO0
  have cl2 := K1.out.cellOf hO1
  have HF2 := Lib.hid hf2
  clear hf2
  clear k0 k1 k2 k3 kb z1 z2 z3 hS0 hO0 hO1 hO2 hOv hSl hS1 hV hf hl hs ho hOl hVe hOve
  generalize s.vers = L at *
  go_enter Try.func22, Try.ntmps22
  go_wp2_with (first | (refine wpList_alloc_n rfl 46 rfl (B + 2) Z2.out _ (alloc_st _) ?_) | (refine wpList_alloc_n rfl 39 rfl (B + 3) Z3.out _ (alloc_rep _) ?_))
  generalize (((w.alloc (.cells S.toArray 46)).alloc (.cells O.toArray 30)).alloc (.cells zS.toArray 46)).alloc (.cells zRp.toArray 39) = w4 at *
  clear cl0 cl1 cl2 Z2 Z3
  refine (vr_find L p c id r w4 HL.out HF.out HV.out).mono ?_
  rintro e w5 ⟨rfl, hb5⟩
  have K05 := Lib.hid (K0.out.below hb5 K0.out.lt)
  have K15 := Lib.hid (K1.out.below hb5 K1.out.lt)
  have K25 := Lib.hid (K2.out.below hb5 K2.out.lt)
  have K35 := Lib.hid (K3.out.below hb5 K3.out.lt)
  have B5 := Lib.hid (KB.out.trans (hb5.mono KB.out.size))
  have V5 := Lib.hid (HV.out.below hb5)
  have OV5 := Lib.hid (HOV.out.below hb5)
  clear K0 K1 K2 K3 KB HV HOV hb5 HF
  have cl0 := K05.out.cellOf HS0.out
  have cl1 := K15.out.cellOf HO0.out
  have cl2 := K15.out.cellOf HO1.out
  subst hk
  have HLC : Hid (∀ j x, (O.drop 2)[j]? = some x → w5.cell? ((⟨B + 1, 2, none⟩ : Addr).add j) = some x) := Lib.hid fun j x hx => by
    rw [List.getElem?_drop] at hx
    rw [Addr.add_mid]
    exact K15.out.cellOf hx
  have HMY := Lib.hid (hr_May a (.agg (O.drop 2).toArray) true w5 hm OV5.out ha.2.2.1 hn.1 hn.2.1 hn.2.2)
  clear hm ha hn
  go_wp2_with (refine wpList_load_addr rfl 28 _ rfl ⟨B + 1, 2, none⟩ rfl (O.drop 2) HLC.out Try.underlying28 rfl (by rw [size_ver, List.length_drop, HOL.out]) ?_)
  refine HMY.out.mono ?_
  rintro e w6 ⟨rfl, hb6⟩
  clear cl0 cl1 cl2 HLC HMY
  have K06 := Lib.hid (K05.out.below hb6 K05.out.lt)
  have K16 := Lib.hid (K15.out.below hb6 K15.out.lt)
  have K26 := Lib.hid (K25.out.below hb6 K25.out.lt)
  have K36 := Lib.hid (K35.out.below hb6 K35.out.lt)
  have B6 := Lib.hid (B5.out.trans (hb6.mono B5.out.size))
  have V6 := Lib.hid (V5.out.below hb6)
  have OV6 := Lib.hid (OV5.out.below hb6)
  clear K05 K15 K25 K35 B5 V5 OV5 hb6
  have cl0 := K06.out.cellOf HS0.out
  have cl1 := K16.out.cellOf HO0.out
  have cl2 := K16.out.cellOf HO1.out
  have cl3 := K16.out.cellOf HO2.out
  go_wp2_with fail
  refine (vr_find L p c a.id (-1) w6 HL.out HF2.out V6.out).mono ?_
  rintro e w8 ⟨rfl, hb8⟩
  clear cl0 cl1 cl2 cl3
  have K08 := Lib.hid (K06.out.below hb8 K06.out.lt)
  have K18 := Lib.hid (K16.out.below hb8 K16.out.lt)
  have K28 := Lib.hid (K26.out.below hb8 K26.out.lt)
  have K38 := Lib.hid (K36.out.below hb8 K36.out.lt)
  have B8 := Lib.hid (B6.out.trans (hb8.mono B6.out.size))
  have V8 := Lib.hid (V6.out.below hb8)
  have OV8 := Lib.hid (OV6.out.below hb8)
  clear K06 K16 K26 K36 B6 V6 OV6 hb8
  have cl0 := K08.out.cellOf HS0.out
  have cl1 := K18.out.cellOf HO0.out
  have cl2 := K18.out.cellOf HO1.out
  have cl3 := K18.out.cellOf HO2.out
  have g1 : ¬ (8 : Int) ≤ (L.length : Int) := by omega
  have HQ := Lib.hid hq
  clear hq
  obtain ⟨rows, hsl0, htl0, hrl⟩ := HV0.out.of_len
  have ht1 := tell_one htl0
  have HT0 := Lib.hid htl0
  have HRL := Lib.hid hrl
  have HONE := Lib.hid ht1
  have SV9 := Lib.hid (((hsl0.sub (er_sub lo w)).below B8.out).alloc (.cells #[] 28))
  have O9 := Lib.hid (OwnR.empty w8 w8.heap.size 28 4 (Nat.le_refl _))
  have hb9 := (Below.refl w8.heap.size w8).alloc (Nat.le_refl _) (.cells #[] 28)
  have B9 := Lib.hid hb9
  have S9 := Lib.hid hb9.size
  have LEN1 : Hid (([] : List (List Value)).length + rows.length ≤ maxLen) := Lib.hid (by rw [hrl]; have := HQ.out; unfold maxLen; simp; omega)
  have BY1 : Hid ((([] : List (List Value)).length + rows.length) * 80 ≤ 140737488355328) := Lib.hid (by rw [hrl]; have := HQ.out; simp; omega)
  have LEN2 : Hid (([] ++ rows).length + [O.drop 2].length ≤ maxLen) := Lib.hid (by rw [List.nil_append, hrl, List.length_singleton]; have := HQ.out; unfold maxLen; omega)
  have BY2 : Hid ((([] ++ rows).length + [O.drop 2].length) * 80 ≤ 140737488355328) := Lib.hid (by rw [List.nil_append, hrl, List.length_singleton]; have := HQ.out; omega)
  have HNI := Lib.hid HV0.out.2.nil
  have hd1 : ∀ u ∈ O.drop 2, u.oneCell' = true := tell_one (TellVs.one HOV0.out) _ (by simp)
  have HD1 : Hid (∀ r ∈ [O.drop 2], ∀ u ∈ r, u.oneCell' = true) := Lib.hid fun r hr u hu => by rw [List.mem_singleton.1 hr] at hu; exact hd1 u hu
  have HDL : Hid ((O.drop 2).length = 4) := Lib.hid (by rw [List.length_drop, HOL.out])
  have HDI : Hid (i0.size = (O.drop 2).length) := Lib.hid (by rw [HDL.out]; exact hz1)
  have cl9 := (K08.out.alloc (.cells #[] 28)).cellOf HS0.out
  clear hsl0 htl0 hrl ht1 hb9 hd1
  go_wp2_with (first
    | (refine wpList_append_rows rfl _ _ 34 rfl w8.heap.size 28 i0 (.agg zV.toArray) 4 80 Try.underlying34 hi0 hz0 hz1 hz2 rfl (by decide) _ [] rfl O9.out (.slice p L.length c) rows rfl SV9.out HONE.out LEN1.out BY1.out S9.out HNI.out ?_; intro v10 w10 ho10 hg10 hv10; have hb10 := B9.out.grown hg10 S9.out (fun k e => (O9.out.lt k e).1); have B10 := Lib.hid hb10; have HO10 := Lib.hid ho10; have K1x := K18.out.below hb10 K18.out.lt; have HLC : Hid (∀ j x, (O.drop 2)[j]? = some x → w10.cell? ((⟨B + 1, 2, none⟩ : Addr).add j) = some x) := Lib.hid (fun j x hx => by (rw [List.getElem?_drop] at hx; rw [Addr.add_mid]; exact K1x.cellOf hx)); have ho11 := ho10.alloc (.cells (O.drop 2).toArray 28); have HO11 := Lib.hid ho11; have hb11 := hb10.alloc hb10.size (.cells (O.drop 2).toArray 28); have B11 := Lib.hid hb11; have S11 := Lib.hid hb11.size; have hnb := sl_one (Blk.new' w10 28 (c := (O.drop 2).toArray) (O.drop 2) rfl); rw [HDL.out] at hnb; have SN11 := Lib.hid hnb; clear ho10 hg10 hv10 hb10 K1x ho11 hb11 hnb)
    | (refine wpList_load_addr rfl 28 _ rfl ⟨B + 1, 2, none⟩ rfl (O.drop 2) HLC.out Try.underlying28 rfl (by rw [size_ver, HDL.out]) ?_)
    | (refine wpList_buildRow rfl 34 28 _ rfl (O.drop 2) i0 (.agg zV.toArray) w10.heap.size rfl Try.underlying34 hi0 hz0 HDI.out (by rw [HDL.out]; decide) (by rw [HDL.out]; decide) (by simp only [List.map_toArray, List.map_cons, List.map_nil]; rfl) ?_)
    | (refine wpList_append_rows rfl _ _ 34 rfl w8.heap.size 28 i0 (.agg zV.toArray) 4 80 Try.underlying34 hi0 hz0 hz1 hz2 rfl (by decide) _ ([] ++ rows) rfl HO11.out (.slice (some ⟨w10.heap.size, 0, none⟩) 1 1) [O.drop 2] rfl SN11.out HD1.out LEN2.out BY2.out S11.out (.inr ⟨_, _, _, rfl⟩) ?_; intro v12 w12 ho12 hg12 hv12; have hb12 := B11.out.grown hg12 S11.out (fun k e => (HO11.out.lt k e).1); have HO12 := Lib.hid ho12; have B12 := Lib.hid hb12; have k012 := K08.out.below hb12 K08.out.lt; have K012 := Lib.hid k012; have cc0 := k012.cellOf HS0.out; have cf0 := k012.free 0; obtain ⟨pv, cv, hvv⟩ := ho12.isSlice; obtain ⟨n12, hn12⟩ : ∃ n, ([] ++ rows ++ [O.drop 2]).length = n := ⟨_, rfl⟩; rw [hn12] at hvv; subst hvv; have PE := Lib.hid (put_end (R := zRp) (show w.heap.size ≤ B by omega) HST.out (B8.out.trans (hb12.mono B8.out.size)) k012 (K28.out.below hb12 K28.out.lt) (K38.out.below hb12 K38.out.lt) K38.out.lt ho12 (L' := L ++ [a]) (TellVs.app HT0.out (TellVs.one HOV0.out)) rfl); clear ho12 hg12 hv12 hb12 k012 hn12)
    | (refine wpList_load_blk rfl 46 _ rfl B rfl PE.out.1 Try.underlying46 rfl (by rw [size_st, PE.out.2.2.2.2.2.2.1]) ?_)
    | (refine wpList_build_at rfl 39 _ rfl (.agg zRp.toArray) (by simp only [List.map_toArray, List.map_nil]; exact build_rep0 _) ?_)
    | (refine wpList_store_blk rfl 46 _ _ rfl (B + 2) (S.set 0 (.slice pv n12 cv)) rfl rfl PE.out.2.1 (by rw [size_st, PE.out.2.2.2.2.2.2.1]) (by rw [PE.out.2.2.2.2.2.2.1]; rfl) PE.out.2.2.2.2.2.1 ?_)
    | (refine wpList_store_blk rfl 39 _ _ rfl (B + 3) zRp rfl rfl PE.out.2.2.1 (by rw [size_rep]; rfl) rfl (eR_one 0) ?_))
  refine bodyPost_ret (v := .tuple #[.agg (S.set 0 (.slice pv n12 cv)).toArray, .agg zRp.toArray]) (results_cells2 rfl _ _ (B + 2) (B + 3) rfl rfl PE.out.2.2.2.1 PE.out.2.2.2.2.1 Try.underlying46 rfl (by rw [size_st, PE.out.2.2.2.2.2.2.1]) Try.underlying39 rfl (by rw [size_rep]; rfl)) rfl ?_
  exact ⟨_, _, rfl, PE.out.2.2.2.2.2.2.2.1, rep_none _ 0, PE.out.2.2.2.2.2.2.2.2⟩
end Go.Proofs.Ytogonbgelaehhaa
namespace Go.Proofs.Ytogonbgelaehhaa
open Go.RowKit
set_option linter.unusedVariables false

theorem elem_vs : Try.prog.elem 34 = 28 := by kernel_rfl
theorem size_elem_vs (wx : World) : (sizeOf (Try.prog.elem 34)).run Try.prog wx = .ok 4 wx := by
  rw [elem_vs]
  obtain ⟨i0, hi0, _, hz1, _⟩ := info_parts2 info_verV
  simp [sizeOf, typeInfo, hi0, hz1]
theorem under_vs : Try.prog.underlying 34 = some (.slice (Try.prog.elem 34)) := by rw [elem_vs]; exact Try.underlying34
/-- versions from a place on -/
theorem cut_lo {w : World} {p : Option Addr} {n c : Nat} {l : List RawV} (h : VsV w (.slice p n c) l) (m : Nat) (hm : m ≤ n) :
    ∃ p2 c2, (∀ wx, (Instr.sliceAt 34 (.slice p n c) (some (.int .i64 (m : Int))) none none).run Try.prog wx = .ok (.slice p2 (n - m) c2) wx) ∧ ∀ wx, VsV wx (.slice p n c) l → VsV wx (.slice p2 (n - m) c2) (l.drop m) := by
  have hn : n = l.length := by
    obtain ⟨p', c', e⟩ := h.isSlice
    cases e
    rfl
  rcases h.cases with ⟨rfl, rfl, rfl, rfl⟩ | ⟨⟨a, rfl⟩, hc⟩
  · obtain rfl : m = 0 := by omega
    refine ⟨none, 0, fun wx => ?_, fun wx hx => hx⟩
    rw [run_sliceAt_slice wx _ _ _ _ _ under_vs, run_slice_l wx _ _ _ _ under_vs .i64 _ (by omega) (by omega), size_elem_vs]
    simp [Result.andThen, sliced]
  · refine ⟨if m = c then some a else some (a.add (m * 4)), c - m, fun wx => ?_, fun wx hx => ?_⟩
    · rw [run_sliceAt_slice wx _ _ _ _ _ under_vs, run_slice_l wx _ _ _ _ under_vs .i64 _ (by omega) (by omega), size_elem_vs]
      simp only [Result.andThen, sliced, Int.toNat_natCast]
      by_cases h1 : m = c
      · simp [h1]
      · simp [h1]
        exact fun e => absurd e.symm h1
    · by_cases h1 : m = c
      · have hd : l.drop m = [] := List.drop_eq_nil_of_le (by omega)
        rw [hd, if_pos h1, show n - m = 0 by omega]
        exact ⟨⟨[], ⟨(fun r hr => by cases hr), _, _, rfl, fun i r hr => by simp at hr⟩, TellVs.nil wx⟩, .inr ⟨_, _, _, rfl, Nat.zero_le _⟩⟩
      · rw [if_neg h1]
        exact hx.dropped (by omega) _ (by omega)
/-- versions up to a place -/
theorem cut_hi {w : World} {p : Option Addr} {n c : Nat} {l : List RawV} (h : VsV w (.slice p n c) l) (m : Nat) (hm : m ≤ n) :
    ∃ p2 c2, (∀ wx, (Instr.sliceAt 34 (.slice p n c) none (some (.int .i64 (m : Int))) none).run Try.prog wx = .ok (.slice p2 m c2) wx) ∧ ∀ wx, VsV wx (.slice p n c) l → VsV wx (.slice p2 m c2) (l.take m) := by
  have hn : n = l.length := by
    obtain ⟨p', c', e⟩ := h.isSlice
    cases e
    rfl
  rcases h.cases with ⟨rfl, rfl, rfl, rfl⟩ | ⟨⟨a, rfl⟩, hc⟩
  · obtain rfl : m = 0 := by omega
    refine ⟨none, 0, fun wx => ?_, fun wx hx => hx⟩
    rw [run_sliceAt_slice wx _ _ _ _ _ under_vs, run_slice_h wx _ _ _ _ under_vs .i64 _ (by omega) (by omega), size_elem_vs]
    simp [Result.andThen, sliced]
  · by_cases h0 : (0 : Nat) = c
    · obtain rfl : m = 0 := by omega
      refine ⟨some a, 0, fun wx => ?_, fun wx hx => hx.taken (by omega) _ (by omega)⟩
      rw [run_sliceAt_slice wx _ _ _ _ _ under_vs, run_slice_h wx _ _ _ _ under_vs .i64 _ (by omega) (by omega), size_elem_vs]
      simp [Result.andThen, sliced, ← h0]
    · refine ⟨some (a.add (0 * 4)), c, fun wx => ?_, fun wx hx => ?_⟩
      · rw [run_sliceAt_slice wx _ _ _ _ _ under_vs, run_slice_h wx _ _ _ _ under_vs .i64 _ (by omega) (by omega), size_elem_vs]
        simp [Result.andThen, sliced]
        exact fun e => absurd e.symm h0
      · have h1 : VsV wx (.slice (some (a.add (0 * 4))) (n - 0) c) (l.drop 0) := hx.dropped (Nat.zero_le _) c (by omega)
        exact h1.taken (by rw [List.drop_zero]; omega) _ (by omega)
end Go.Proofs.Ytogonbgelaehhaa
namespace Go.Proofs.Ytogonbgelaehhaa
open Go.RowKit
set_option linter.unusedVariables false

set_option maxRecDepth 100000 in
set_option maxHeartbeats 4000000 in
theorem vr_Do2 (s : StU RawV) (v vo : Value) (kind : Int) (id k : Nat) (a : RawV) (w : World) (lo : Nat) (hlo : lo ≤ w.heap.size) (hs : StTold (er lo w) v s) (ho : OpTold (er lo w) vo kind id a) (hl : s.vers.length ≤ 1000000) (hk : kind = 2) (hf : findV s.vers id = (k : Int)) (hq : k < s.vers.length) :
    Calls Try.prog 22 #[v, vo] w (DoRet lo s (s.vers.take k ++ s.vers.drop (k + 1)) ⟨0, [], noV⟩ w) := by
  obtain ⟨i0, hi0, hz0, hz1, hz2⟩ := info_parts2 info_verV
  obtain ⟨S, p, c, rfl, hSl, hS1, hS0, hV⟩ := st_cells hs
  obtain ⟨O, rfl, hOl, hO0, hO1, hO2, hOv⟩ := op_cells ho
  have hVe := hV
  have hOve := hOv
  replace hV := hV.sub (er_sub lo w)
  replace hOv := hOv.sub (er_sub lo w)
  obtain ⟨B, hB⟩ : ∃ B, w.heap.size = B := ⟨_, rfl⟩
  have k0 := Blk.newAt w B hB 46 (c := S.toArray) S rfl
  have z1 : (w.alloc (.cells S.toArray 46)).heap.size = B + 1 := by simp [hB]
  have k1 := Blk.newAt _ (B + 1) z1 30 (c := O.toArray) O rfl
  have z2 : ((w.alloc (.cells S.toArray 46)).alloc (.cells O.toArray 30)).heap.size = B + 2 := by simp [hB]
  have k2 := Blk.newAt _ (B + 2) z2 46 (c := zS.toArray) zS rfl
  have z3 : (((w.alloc (.cells S.toArray 46)).alloc (.cells O.toArray 30)).alloc (.cells zS.toArray 46)).heap.size = B + 3 := by simp [hB]
  have k3 := Blk.newAt _ (B + 3) z3 39 (c := zRp.toArray) zRp rfl
  have kb := ((((Below.refl w.heap.size w).alloc (Nat.le_refl _) (.cells S.toArray 46)).alloc (by simp) (.cells O.toArray 30)).alloc (by simp; omega) (.cells zS.toArray 46)).alloc (by simp; omega) (.cells zRp.toArray 39)
  have K0 := Lib.hid (((k0.alloc (.cells O.toArray 30)).alloc (.cells zS.toArray 46)).alloc (.cells zRp.toArray 39))
  have K1 := Lib.hid ((k1.alloc (.cells zS.toArray 46)).alloc (.cells zRp.toArray 39))
  have K2 := Lib.hid (k2.alloc (.cells zRp.toArray 39))
  have K3 := Lib.hid k3
  have KB := Lib.hid kb
  have Z3 := Lib.hid z3
  have Z2 := Lib.hid z2
  have HS0 := Lib.hid hS0
  have HO0 := Lib.hid hO0
  have HO1 := Lib.hid hO1
  have HO2 := Lib.hid hO2
  have HOV := Lib.hid (hOv.below kb)
  have HSL := Lib.hid hSl
  have HOL := Lib.hid hOl
  have HSO := Lib.hid hS1
  have HV := Lib.hid (hV.below kb)
  have HF := Lib.hid hf
  have HV0 := Lib.hid hVe
  have HOV0 := Lib.hid hOve
  have HST := Lib.hid hs
  have HL := Lib.hid hl
  have HSZ : Hid ((Try.prog.info? 46).map (·.size) = some S.length) := Lib.hid (by rw [size_st, hSl])
  have cl0 := K0.out.cellOf hS0
  have cl1 := K1.out.cellOf hO0
  have cl2 := K1.out.cellOf hO1
  clear k0 k1 k2 k3 kb z1 z2 z3 hS0 hO0 hO1 hO2 hOv hSl hS1 hV hf hl hs ho hOl hVe hOve
  generalize s.vers = L at *
  go_enter Try.func22, Try.ntmps22
  go_wp2_with (first | (refine wpList_alloc_n rfl 46 rfl (B + 2) Z2.out _ (alloc_st _) ?_) | (refine wpList_alloc_n rfl 39 rfl (B + 3) Z3.out _ (alloc_rep _) ?_))
  generalize (((w.alloc (.cells S.toArray 46)).alloc (.cells O.toArray 30)).alloc (.cells zS.toArray 46)).alloc (.cells zRp.toArray 39) = w4 at *
  clear cl0 cl1 cl2 Z2 Z3
  refine (vr_find L p c id (k : Int) w4 HL.out HF.out HV.out).mono ?_
  rintro e w5 ⟨rfl, hb5⟩
  have K05 := Lib.hid (K0.out.below hb5 K0.out.lt)
  have K15 := Lib.hid (K1.out.below hb5 K1.out.lt)
  have K25 := Lib.hid (K2.out.below hb5 K2.out.lt)
  have K35 := Lib.hid (K3.out.below hb5 K3.out.lt)
  have B5 := Lib.hid (KB.out.trans (hb5.mono KB.out.size))
  have V5 := Lib.hid (HV.out.below hb5)
  have OV5 := Lib.hid (HOV.out.below hb5)
  clear K0 K1 K2 K3 KB HV HOV hb5 HF
  have cl0 := K05.out.cellOf HS0.out
  have cl1 := K15.out.cellOf HO0.out
  have cl2 := K15.out.cellOf HO1.out
  subst hk
  obtain ⟨pa, ca, hh1, hh2⟩ := cut_hi HV0.out k (by omega)
  obtain ⟨pd, cd, hd1, hd2⟩ := cut_lo HV0.out (k + 1) (by omega)
  obtain ⟨R1, hs1, ht1, hr1⟩ := (hh2 (er lo w) HV0.out).of_len
  obtain ⟨R2, hs2, ht2, hr2⟩ := (hd2 (er lo w) HV0.out).of_len
  have HN1 := Lib.hid (hh2 (er lo w) HV0.out).2.nil
  have HN2 := Lib.hid (hd2 (er lo w) HV0.out).2.nil
  have hb0 := B5.out
  have HT1 := Lib.hid ht1
  have HT2 := Lib.hid ht2
  have HO1a := Lib.hid (tell_one ht1)
  have HO2a := Lib.hid (tell_one ht2)
  have S1 := Lib.hid (hs1.sub (er_sub lo w))
  have S2 := Lib.hid (hs2.sub (er_sub lo w))
  have hr1' : R1.length ≤ 1000000 := by rw [hr1, List.length_take]; have := HL.out; omega
  have hr2' : R2.length ≤ 1000000 := by rw [hr2, List.length_drop]; have := HL.out; omega
  have SV6 := Lib.hid ((S1.out.below B5.out).alloc (.cells #[] 28))
  have O6 := Lib.hid (OwnR.empty w5 w5.heap.size 28 4 (Nat.le_refl _))
  have hb6 := (Below.refl w5.heap.size w5).alloc (Nat.le_refl _) (.cells #[] 28)
  have B6 := Lib.hid hb6
  have S6 := Lib.hid hb6.size
  have LEN1 : Hid (([] : List (List Value)).length + R1.length ≤ maxLen) := Lib.hid (by unfold maxLen; simp; omega)
  have BY1 : Hid ((([] : List (List Value)).length + R1.length) * 80 ≤ 140737488355328) := Lib.hid (by simp; omega)
  have LEN2 : Hid (([] ++ R1).length + R2.length ≤ maxLen) := Lib.hid (by rw [List.nil_append]; unfold maxLen; omega)
  have BY2 : Hid ((([] ++ R1).length + R2.length) * 80 ≤ 140737488355328) := Lib.hid (by rw [List.nil_append]; omega)
  have cl9 := (K05.out.alloc (.cells #[] 28)).cellOf HS0.out
  have g2 : L.length ≤ 1000000 := HL.out
  have g3 : (k : Int) < (L.length : Int) := by omega
  have g4 : ∀ wx, (Instr.sliceAt 34 (.slice p L.length c) (some (.int .i64 ((k : Int) + 1))) none none).run Try.prog wx = .ok (.slice pd (L.length - (k + 1)) cd) wx := fun wx => hd1 wx
  clear hs1 ht1 hr1 hs2 ht2 hr2 hr1' hr2' hb0 hb6 hh2 hd2 hd1 hq
  go_wp2_with (first
    | (refine wpList_append_rows rfl _ _ 34 rfl w5.heap.size 28 i0 (.agg zV.toArray) 4 80 Try.underlying34 hi0 hz0 hz1 hz2 rfl (by decide) _ [] rfl O6.out (.slice pa k ca) R1 rfl SV6.out HO1a.out LEN1.out BY1.out S6.out HN1.out ?_; intro v10 w10 ho10 hg10 hv10; have hb10 := B6.out.grown hg10 S6.out (fun k e => (O6.out.lt k e).1); have B10 := Lib.hid hb10; have S10 := Lib.hid hb10.size; have HO10 := Lib.hid ho10; have SX10 := Lib.hid (S2.out.below (B5.out.trans (hb10.mono B5.out.size))); have cl8 := (K05.out.below hb10 K05.out.lt).cellOf HS0.out; clear ho10 hg10 hv10 hb10)
    | (refine wpList_append_rows rfl _ _ 34 rfl w5.heap.size 28 i0 (.agg zV.toArray) 4 80 Try.underlying34 hi0 hz0 hz1 hz2 rfl (by decide) _ ([] ++ R1) rfl HO10.out (.slice pd (L.length - (k + 1)) cd) R2 rfl SX10.out HO2a.out LEN2.out BY2.out S10.out HN2.out ?_; intro v12 w12 ho12 hg12 hv12; have hb12 := B10.out.grown hg12 S10.out (fun k e => (HO10.out.lt k e).1); have k012 := K05.out.below hb12 K05.out.lt; have cc0 := k012.cellOf HS0.out; have cf0 := k012.free 0; obtain ⟨pv, cv, hvv⟩ := ho12.isSlice; obtain ⟨n12, hn12⟩ : ∃ n, ([] ++ R1 ++ R2).length = n := ⟨_, rfl⟩; rw [hn12] at hvv; subst hvv; have PE := Lib.hid (put_end (R := zRp) (show w.heap.size ≤ B by omega) HST.out (B5.out.trans (hb12.mono B5.out.size)) k012 (K25.out.below hb12 K25.out.lt) (K35.out.below hb12 K35.out.lt) K35.out.lt ho12 (L' := L.take k ++ L.drop (k + 1)) (TellVs.app HT1.out HT2.out) rfl); clear ho12 hg12 hv12 hb12 k012 hn12)
    | (refine wpList_load_blk rfl 46 _ rfl B rfl PE.out.1 Try.underlying46 rfl (by rw [size_st, PE.out.2.2.2.2.2.2.1]) ?_)
    | (refine wpList_build_at rfl 39 _ rfl (.agg zRp.toArray) (by simp only [List.map_toArray, List.map_nil]; exact build_rep0 _) ?_)
    | (refine wpList_store_blk rfl 46 _ _ rfl (B + 2) (S.set 0 (.slice pv n12 cv)) rfl rfl PE.out.2.1 (by rw [size_st, PE.out.2.2.2.2.2.2.1]) (by rw [PE.out.2.2.2.2.2.2.1]; rfl) PE.out.2.2.2.2.2.1 ?_)
    | (refine wpList_store_blk rfl 39 _ _ rfl (B + 3) zRp rfl rfl PE.out.2.2.1 (by rw [size_rep]; rfl) rfl (eR_one 0) ?_))
  refine bodyPost_ret (v := .tuple #[.agg (S.set 0 (.slice pv n12 cv)).toArray, .agg zRp.toArray]) (results_cells2 rfl _ _ (B + 2) (B + 3) rfl rfl PE.out.2.2.2.1 PE.out.2.2.2.2.1 Try.underlying46 rfl (by rw [size_st, PE.out.2.2.2.2.2.2.1]) Try.underlying39 rfl (by rw [size_rep]; rfl)) rfl ?_
  exact ⟨_, _, rfl, PE.out.2.2.2.2.2.2.2.1, rep_none _ 0, PE.out.2.2.2.2.2.2.2.2⟩
end Go.Proofs.Ytogonbgelaehhaa
namespace Go.Proofs.Ytogonbgelaehhaa
open Go.RowKit
set_option linter.unusedVariables false

/-- a reply of numbers -/
def iR (vi : Value) : List Value := cellsR 0 vi 0 (.slice none 0 0) (.slice none 0 0) (.slice none 0 0)
theorem build_repI (p : Option Addr) (n c : Nat) (w : World) : (Instr.build 39 #[(1, .slice p n c)]).run Try.prog w = .ok (.agg (iR (.slice p n c)).toArray) w := by kernel_rfl
def liC (w w5 : World) (B : Nat) (S : List Value) (b : Bool) (W : World) : Prop := if b then Blk W (B + 2) 46 S ∧ Blk W (B + 3) 39 zRp ∧ Below w.heap.size w W ∧ w5.heap.size ≤ W.heap.size else Below w5.heap.size w5 W
def liS (B base : Nat) (S : List Value) (vv : Value) (I : List Nat) (b : Bool) (i : Nat) (v : Value) (W : World) : Prop :=
  match i with
  | 0 => v = .agg S.toArray
  | 1 => v = .pointer (some ⟨B, 0, none⟩)
  | 2 => v = vv
  | 3 => OwnR W base 23 1 v (rowsU .u32 I)
  | 4 => ∃ vi, v = .agg (iR vi).toArray ∧ OwnR W base 23 1 vi (rowsU .u32 I)
  | _ => True
theorem liS_mono {B base : Nat} {S : List Value} {vv : Value} {I : List Nat} (b : Bool) (i : Nat) (v : Value) (W W' : World) (h : liS B base S vv I b i v W) (hb : Below W.heap.size W W') : liS B base S vv I b i v W' := by
  match i with
  | 0 => exact h
  | 1 => exact h
  | 2 => exact h
  | 3 => exact OwnR.keep h hb
  | 4 =>
    obtain ⟨vi, h1, h2⟩ := h
    exact ⟨vi, h1, h2.keep hb⟩
  | _ + 5 => trivial
theorem liS_turn {B base : Nat} {S : List Value} {vv : Value} {I : List Nat} (i : Nat) (v : Value) (W : World) (h : liS B base S vv I false i v W) (hlt : B + 2 < base) : liS B base S vv I true i v (W.setRow (B + 2) S.toArray) := by
  match i with
  | 0 => exact h
  | 1 => exact h
  | 2 => exact h
  | 3 => exact OwnR.rowApart h _ _ fun b e => by have := (OwnR.lt h b e).1; omega
  | 4 =>
    obtain ⟨vi, h1, h2⟩ := h
    exact ⟨vi, h1, h2.rowApart _ _ fun b e => by have := (h2.lt b e).1; omega⟩
  | _ + 5 => trivial
set_option maxRecDepth 100000 in
set_option maxHeartbeats 4000000 in
theorem vr_Do4 (s : StU RawV) (v vo : Value) (kind : Int) (id : Nat) (r : Int) (a : RawV) (w : World) (lo : Nat) (hs : StTold w v s) (ho : OpTold w vo kind id a) (hl : s.vers.length ≤ 1000000) (hk : kind = 4) (hf : findV s.vers id = r) :
    Calls Try.prog 22 #[v, vo] w fun e w' => ∃ x, e = .returned (.tuple #[v, .agg x.toArray]) ∧ RepOkV (er lo w') x ⟨0, s.vers.map (·.id), noV⟩ ∧ Below w.heap.size w w' := by
  obtain ⟨S, p, c, rfl, hSl, hS1, hS0, hV⟩ := st_cells hs
  obtain ⟨O, rfl, hOl, hO0, hO1, hO2, hOv⟩ := op_cells ho
  obtain ⟨B, hB⟩ : ∃ B, w.heap.size = B := ⟨_, rfl⟩
  have k0 := Blk.newAt w B hB 46 (c := S.toArray) S rfl
  have z1 : (w.alloc (.cells S.toArray 46)).heap.size = B + 1 := by simp [hB]
  have k1 := Blk.newAt _ (B + 1) z1 30 (c := O.toArray) O rfl
  have z2 : ((w.alloc (.cells S.toArray 46)).alloc (.cells O.toArray 30)).heap.size = B + 2 := by simp [hB]
  have k2 := Blk.newAt _ (B + 2) z2 46 (c := zS.toArray) zS rfl
  have z3 : (((w.alloc (.cells S.toArray 46)).alloc (.cells O.toArray 30)).alloc (.cells zS.toArray 46)).heap.size = B + 3 := by simp [hB]
  have k3 := Blk.newAt _ (B + 3) z3 39 (c := zRp.toArray) zRp rfl
  have kb := ((((Below.refl w.heap.size w).alloc (Nat.le_refl _) (.cells S.toArray 46)).alloc (by simp) (.cells O.toArray 30)).alloc (by simp; omega) (.cells zS.toArray 46)).alloc (by simp; omega) (.cells zRp.toArray 39)
  have K0 := Lib.hid (((k0.alloc (.cells O.toArray 30)).alloc (.cells zS.toArray 46)).alloc (.cells zRp.toArray 39))
  have K1 := Lib.hid ((k1.alloc (.cells zS.toArray 46)).alloc (.cells zRp.toArray 39))
  have K2 := Lib.hid (k2.alloc (.cells zRp.toArray 39))
  have K3 := Lib.hid k3
  have KB := Lib.hid kb
  have Z3 := Lib.hid z3
  have Z2 := Lib.hid z2
  have HS0 := Lib.hid hS0
  have HO0 := Lib.hid hO0
  have HO1 := Lib.hid hO1
  have HO2 := Lib.hid hO2
  have HOV := Lib.hid (hOv.below kb)
  have HSL := Lib.hid hSl
  have HOL := Lib.hid hOl
  have HSO := Lib.hid hS1
  have HV := Lib.hid (hV.below kb)
  have HF := Lib.hid hf
  have HV0 := Lib.hid hV
  have HOV0 := Lib.hid hOv
  have HST := Lib.hid hs
  have HL := Lib.hid hl
  have HSZ : Hid ((Try.prog.info? 46).map (·.size) = some S.length) := Lib.hid (by rw [size_st, hSl])
  have cl0 := K0.out.cellOf hS0
  have cl1 := K1.out.cellOf hO0
  have cl2 := K1.out.cellOf hO1
  clear k0 k1 k2 k3 kb z1 z2 z3 hS0 hO0 hO1 hO2 hOv hSl hS1 hV hf hl hs ho hOl
  generalize s.vers = L at *
  go_enter Try.func22, Try.ntmps22
  go_wp2_with (first | (refine wpList_alloc_n rfl 46 rfl (B + 2) Z2.out _ (alloc_st _) ?_) | (refine wpList_alloc_n rfl 39 rfl (B + 3) Z3.out _ (alloc_rep _) ?_))
  generalize (((w.alloc (.cells S.toArray 46)).alloc (.cells O.toArray 30)).alloc (.cells zS.toArray 46)).alloc (.cells zRp.toArray 39) = w4 at *
  clear cl0 cl1 cl2 Z2 Z3
  refine (vr_find L p c id r w4 HL.out HF.out HV.out).mono ?_
  rintro e w5 ⟨rfl, hb5⟩
  have K05 := Lib.hid (K0.out.below hb5 K0.out.lt)
  have K15 := Lib.hid (K1.out.below hb5 K1.out.lt)
  have K25 := Lib.hid (K2.out.below hb5 K2.out.lt)
  have K35 := Lib.hid (K3.out.below hb5 K3.out.lt)
  have B5 := Lib.hid (KB.out.trans (hb5.mono KB.out.size))
  have V5 := Lib.hid (HV.out.below hb5)
  have OV5 := Lib.hid (HOV.out.below hb5)
  clear K0 K1 K2 K3 KB HV HOV hb5 HF
  have cl0 := K05.out.cellOf HS0.out
  have cl1 := K15.out.cellOf HO0.out
  have cl2 := K15.out.cellOf HO1.out
  subst hk
  have HIDS := Lib.hid (fun wx (h : Below w5.heap.size w5 wx) => vr_ids L p c wx HL.out (V5.out.below h))
  have HBL := Lib.hid (show B + 3 < w5.heap.size from K35.out.lt)
  have HRG : Hid (∀ wx, Below w5.heap.size w5 wx → Blk wx B 46 S ∧ wx.cell? ⟨B, 0, none⟩ = some (.slice p L.length c)) := Lib.hid fun wx h => ⟨K05.out.below h K05.out.lt, (K05.out.below h K05.out.lt).cellOf HS0.out⟩
  go_wp2_with fail
  refine region_mixT 5 6 (by decide) mixed (by kernel_rfl) (by kernel_rfl) (fun u => #[_, _, _, _, _, _, _, _, _, _, _, _, _, _, _, _, _, _, _, _, _, _, _, _, _, _, _, _, _, _, _, _, _, _, _, _, _, _, _, _, _, _, _, _, _, _, _, _, _, _, _, _, _, _, _, _, _, _, _, _, _, _, _, _, _, _, _, _, _, _, _, _, _, _, _, _, _, _, _, _, _, _, _, _, _, _, _, _, _, _, _, _, _, _, _, _, _, _, _, _, _, _, _, _, _, _, u 0, u 1, u 2, u 3, u 4, _, _, _, _, _, _, _, _, _, _, _, _, _, _, _]) [] (fun _ => undef) rfl (liC w w5 B S) (show Below _ _ _ from (Below.refl _ _).drew) (liS B w5.heap.size S (.slice p L.length c) (L.map (·.id))) ?mono ?step ?one ?last
  case mono => exact fun b i v W W' h _ _ hb => liS_mono b i v W W' h hb
  case step =>
    intro bb u W j o hj hjk hneed ho hC hd
    rcases j with _ | _ | _ | _ | _ | _ | j
    all_goals try (simp only [List.getElem?_cons_zero, List.getElem?_cons_succ, Option.some.injEq] at ho; subst ho)
    · cases bb with
      | true => exact absurd (hneed rfl) (by decide)
      | false =>
        have HC : Hid (Below w5.heap.size w5 W) := Lib.hid hC
        have kb := (HRG.out W HC.out).1
        have KW := Lib.hid kb
        clear kb hC hd
        go_wp2_with (refine wpList_load_blk rfl 46 _ rfl B rfl KW.out Try.underlying46 rfl HSZ.out ?_)
        exact ⟨_, rfl, rfl, HC.out, Below.refl _ _⟩
    · go_wp2_with fail
      exact ⟨_, rfl, rfl, hC, Below.refl _ _⟩
    · cases bb with
      | true => exact absurd (hneed rfl) (by decide)
      | false =>
        have h1 : u 1 = .pointer (some ⟨B, 0, none⟩) := hd ⟨1, .data⟩ (by simp) rfl
        have cw := (HRG.out W hC).2
        rw [h1]
        go_wp2_with fail
        exact ⟨_, by simp [upd, h1], rfl, hC, Below.refl _ _⟩
    · cases bb with
      | true => exact absurd (hneed rfl) (by decide)
      | false =>
        have h2 : u 2 = .slice p L.length c := hd ⟨2, .data⟩ (by simp) rfl
        have HC : Hid (Below w5.heap.size w5 W) := Lib.hid hC
        have hq := HIDS.out W HC.out
        clear hC hd
        rw [h2]
        go_wp2_with fail
        (with_reducible refine hq.mono ?_)
        rintro e w6 ⟨vi, rfl, hO, hb6⟩
        have HO := Lib.hid (hO.lower HC.out.size)
        have HB6 := Lib.hid hb6
        clear hO hb6
        go_wp2_with fail
        exact ⟨vi, by first | (simp [upd, h2]; done) | (simp [upd, h2]; rfl), HO.out, HC.out.trans (HB6.out.mono HC.out.size), HB6.out⟩
    · have h3 : OwnR W w5.heap.size 23 1 (u 3) (rowsU .u32 (L.map (·.id))) := hd ⟨3, .data⟩ (by simp) rfl
      obtain ⟨vi, hvi⟩ : ∃ vi, u 3 = vi := ⟨_, rfl⟩
      rw [hvi] at h3
      obtain ⟨p3, c3, rfl⟩ := h3.isSlice
      have HO := Lib.hid h3
      clear h3 hd
      rw [hvi]
      go_wp2_with (refine wpList_build_at rfl 39 _ rfl _ (by simp only [List.map_toArray, List.map_cons, List.map_nil]; exact build_repI _ _ _ _) ?_)
      exact ⟨_, by first | (simp [upd, hvi]; done) | (simp [upd, hvi]; rfl), ⟨_, rfl, HO.out⟩, hC, Below.refl _ _⟩
    · omega
    · omega
  case one =>
    intro u W o ho hC hd
    simp only [List.getElem?_cons_zero, List.getElem?_cons_succ, Option.some.injEq] at ho
    subst ho
    have h0 : u 0 = .agg S.toArray := hd ⟨0, .data⟩ (by simp) rfl
    have HC : Hid (Below w5.heap.size w5 W) := Lib.hid hC
    have k2 := K25.out.below HC.out K25.out.lt
    have k3 := K35.out.below HC.out K35.out.lt
    have KW := Lib.hid k2
    have M2 := Lib.hid (k2.row S (by rw [HSL.out]; rfl))
    have M3 := Lib.hid (k3.rowOther (show B + 3 ≠ B + 2 by omega) S.toArray)
    have M4 := Lib.hid (below_setRow (B5.out.trans (HC.out.mono B5.out.size)) (show w.heap.size ≤ B + 2 by omega) S.toArray)
    clear hC hd k2 k3
    rw [h0]
    go_wp2_with (refine wpList_store_blk rfl 46 _ _ rfl (B + 2) S rfl rfl KW.out HSZ.out (by rw [HSL.out]; rfl) HSO.out ?_)
    exact ⟨undef, by first | (simp [upd, h0]; done) | (simp [upd, h0]; rfl), trivial, ⟨M2.out, M3.out, M4.out, by simpa using HC.out.size⟩, fun i x _ h => liS_turn i x W h (by have := HBL.out; omega)⟩
  case last =>
    intro u W o ho hC hSS
    simp only [List.getElem?_cons_zero, List.getElem?_cons_succ, Option.some.injEq] at ho
    subst ho
    have h44 := hSS 4 (by decide)
    obtain ⟨vi, h4, hO⟩ := h44
    obtain ⟨k2, k3, hb, hsz⟩ := hC
    obtain ⟨p3, c3, hvi⟩ := hO.isSlice
    have h1c : (iR vi).toArray.all (·.oneCell') = true := by rw [hvi]; simp [iR, cellsR, Value.oneCell']
    have o5 := hO.rowApart (B + 3) (iR vi).toArray (fun b e => by have := (hO.lt b e).1; have := HBL.out; omega)
    have hrep : RepOkV (er lo (W.setRow (B + 3) (iR vi).toArray)) (iR vi) ⟨0, L.map (·.id), noV⟩ := ⟨vi, _, rfl, ⟨p3, c3, by rw [hvi, rowsU_len]⟩, (own_er lo o5 (by decide)).sl, VV.none _⟩
    have K3 := Lib.hid k3
    have M2 := Lib.hid (k2.rowOther (show B + 2 ≠ B + 3 by omega) (iR vi).toArray)
    have M3 := Lib.hid (k3.row (iR vi) rfl)
    have M4 := Lib.hid (below_setRow hb (show w.heap.size ≤ B + 3 by omega) (iR vi).toArray)
    have HRP := Lib.hid hrep
    have H1C := Lib.hid h1c
    clear hSS k2 k3 hb hsz hO hvi h1c o5 hrep
    rw [h4]
    go_wp2_with (refine wpList_store_blk rfl 39 _ _ rfl (B + 3) (iR vi) rfl rfl K3.out (by rw [size_rep]; rfl) rfl H1C.out ?_)
    refine bodyPost_ret (v := .tuple #[.agg S.toArray, .agg (iR vi).toArray]) (results_cells2 rfl _ _ (B + 2) (B + 3) rfl rfl M2.out M3.out Try.underlying46 rfl HSZ.out Try.underlying39 rfl (by rw [size_rep]; rfl)) rfl ?_
    exact ⟨_, rfl, HRP.out, M4.out⟩
end Go.Proofs.Ytogonbgelaehhaa
namespace Go.Proofs.Ytogonbgelaehhaa
open Go.RowKit
set_option linter.unusedVariables false

/-- a reply of a version -/
def vR (r : List Value) : List Value := .int .i64 0 :: .slice none 0 0 :: r
theorem build_repV {r : List Value} (h : ∃ id pb nb cb pn n1 cn pz nz cz, r = cellsV id (.slice pb nb cb) (.slice pn n1 cn) (.slice pz nz cz)) (w : World) : (Instr.build 39 #[(2, .agg r.toArray)]).run Try.prog w = .ok (.agg (vR r).toArray) w := by
  obtain ⟨id, pb, nb, cb, pn, n1, cn, pz, nz, cz, rfl⟩ := h
  kernel_rfl
def geC (w w5 : World) (B : Nat) (S : List Value) (b : Bool) (W : World) : Prop := Blk W B 46 S ∧ Blk W (B + 2) 46 (if b then S else zS) ∧ Blk W (B + 3) 39 zRp ∧ Below w.heap.size w W
def geS (B k : Nat) (S r : List Value) (ad : Addr) (vv : Value) (i : Nat) (v : Value) : Prop :=
  match i with
  | 0 => v = .agg S.toArray
  | 1 => v = .pointer (some ⟨B, 0, none⟩)
  | 2 => v = vv
  | 3 => v = .int .i64 (k : Int)
  | 4 => v = .pointer (some (ad.add (k * 4)))
  | 5 => v = .agg r.toArray
  | 6 => v = .agg (vR r).toArray
  | _ => True
set_option maxRecDepth 100000 in
set_option maxHeartbeats 4000000 in
theorem vr_Do5 (s : StU RawV) (v vo : Value) (kind : Int) (id k : Nat) (a : RawV) (w : World) (lo : Nat) (hlo : lo ≤ w.heap.size) (hs : StTold (er lo w) v s) (ho : OpTold (er lo w) vo kind id a) (hl : s.vers.length ≤ 1000000) (hk : kind = 5) (hf : findV s.vers id = (k : Int)) (hq : k < s.vers.length) :
    Calls Try.prog 22 #[v, vo] w fun e w' => ∃ x, e = .returned (.tuple #[v, .agg x.toArray]) ∧ RepOkV (er lo w') x ⟨0, [], s.vers.getD k noV⟩ ∧ Below w.heap.size w w' := by
  obtain ⟨S, p, c, rfl, hSl, hS1, hS0, hV⟩ := st_cells hs
  obtain ⟨O, rfl, hOl, hO0, hO1, hO2, hOv⟩ := op_cells ho
  have hVe := hV
  have hOve := hOv
  replace hV := hV.sub (er_sub lo w)
  replace hOv := hOv.sub (er_sub lo w)
  obtain ⟨B, hB⟩ : ∃ B, w.heap.size = B := ⟨_, rfl⟩
  have k0 := Blk.newAt w B hB 46 (c := S.toArray) S rfl
  have z1 : (w.alloc (.cells S.toArray 46)).heap.size = B + 1 := by simp [hB]
  have k1 := Blk.newAt _ (B + 1) z1 30 (c := O.toArray) O rfl
  have z2 : ((w.alloc (.cells S.toArray 46)).alloc (.cells O.toArray 30)).heap.size = B + 2 := by simp [hB]
  have k2 := Blk.newAt _ (B + 2) z2 46 (c := zS.toArray) zS rfl
  have z3 : (((w.alloc (.cells S.toArray 46)).alloc (.cells O.toArray 30)).alloc (.cells zS.toArray 46)).heap.size = B + 3 := by simp [hB]
  have k3 := Blk.newAt _ (B + 3) z3 39 (c := zRp.toArray) zRp rfl
  have kb := ((((Below.refl w.heap.size w).alloc (Nat.le_refl _) (.cells S.toArray 46)).alloc (by simp) (.cells O.toArray 30)).alloc (by simp; omega) (.cells zS.toArray 46)).alloc (by simp; omega) (.cells zRp.toArray 39)
  have K0 := Lib.hid (((k0.alloc (.cells O.toArray 30)).alloc (.cells zS.toArray 46)).alloc (.cells zRp.toArray 39))
  have K1 := Lib.hid ((k1.alloc (.cells zS.toArray 46)).alloc (.cells zRp.toArray 39))
  have K2 := Lib.hid (k2.alloc (.cells zRp.toArray 39))
  have K3 := Lib.hid k3
  have KB := Lib.hid kb
  have Z3 := Lib.hid z3
  have Z2 := Lib.hid z2
  have HS0 := Lib.hid hS0
  have HO0 := Lib.hid hO0
  have HO1 := Lib.hid hO1
  have HO2 := Lib.hid hO2
  have HOV := Lib.hid (hOv.below kb)
  have HSL := Lib.hid hSl
  have HOL := Lib.hid hOl
  have HSO := Lib.hid hS1
  have HV := Lib.hid (hV.below kb)
  have HF := Lib.hid hf
  have HV0 := Lib.hid hVe
  have HOV0 := Lib.hid hOve
  have HST := Lib.hid hs
  have HL := Lib.hid hl
  have HSZ : Hid ((Try.prog.info? 46).map (·.size) = some S.length) := Lib.hid (by rw [size_st, hSl])
  have cl0 := K0.out.cellOf hS0
  have cl1 := K1.out.cellOf hO0
  have cl2 := K1.out.cellOf hO1
  clear k0 k1 k2 k3 kb z1 z2 z3 hS0 hO0 hO1 hO2 hOv hSl hS1 hV hf hl hs ho hOl hVe hOve
  generalize s.vers = L at *
  go_enter Try.func22, Try.ntmps22
  go_wp2_with (first | (refine wpList_alloc_n rfl 46 rfl (B + 2) Z2.out _ (alloc_st _) ?_) | (refine wpList_alloc_n rfl 39 rfl (B + 3) Z3.out _ (alloc_rep _) ?_))
  generalize (((w.alloc (.cells S.toArray 46)).alloc (.cells O.toArray 30)).alloc (.cells zS.toArray 46)).alloc (.cells zRp.toArray 39) = w4 at *
  clear cl0 cl1 cl2 Z2 Z3
  refine (vr_find L p c id (k : Int) w4 HL.out HF.out HV.out).mono ?_
  rintro e w5 ⟨rfl, hb5⟩
  have K05 := Lib.hid (K0.out.below hb5 K0.out.lt)
  have K15 := Lib.hid (K1.out.below hb5 K1.out.lt)
  have K25 := Lib.hid (K2.out.below hb5 K2.out.lt)
  have K35 := Lib.hid (K3.out.below hb5 K3.out.lt)
  have B5 := Lib.hid (KB.out.trans (hb5.mono KB.out.size))
  have V5 := Lib.hid (HV.out.below hb5)
  have OV5 := Lib.hid (HOV.out.below hb5)
  clear K0 K1 K2 K3 KB HV HOV hb5 HF
  have cl0 := K05.out.cellOf HS0.out
  have cl1 := K15.out.cellOf HO0.out
  have cl2 := K15.out.cellOf HO1.out
  subst hk
  have hat := HV0.out.at hq
  obtain ⟨ad, r, rfl, hadl, hvr, hrl, hcel⟩ := hat
  have hrow : ∃ id pb nb cb pn n1 cn pz nz cz, r = cellsV id (.slice pb nb cb) (.slice pn n1 cn) (.slice pz nz cz) := by
    obtain ⟨pb, cb, pn, cn, pz, cz, h⟩ := hvr.row
    exact ⟨_, _, _, _, _, _, _, _, _, _, h⟩
  have HROW := Lib.hid hrow
  have HVR := Lib.hid hvr
  have HRL := Lib.hid hrl
  have HCE : Hid (∀ wx, Below w.heap.size w wx → ∀ j x, r[j]? = some x → wx.cell? ((ad.add (k * 4)).add j) = some x) := Lib.hid fun wx h j x hx => by rw [h.cell (by rw [add_block, add_block]; rw [er_size] at hadl; exact hadl)]; exact (er_sub lo w).2 _ _ (hcel j x hx)
  have H1C : Hid ((vR r).toArray.all (·.oneCell') = true) := Lib.hid (by obtain ⟨_, _, _, _, _, _, _, _, _, _, rfl⟩ := hrow; simp [vR, cellsV, Value.oneCell'])
  have HV6 : Hid ((vR r).length = 6) := Lib.hid (by simp [vR, hrl])
  have g2 : L.length ≤ 1000000 := HL.out
  have g3 : (k : Int) < (L.length : Int) := by omega
  clear hadl hvr hrl hcel hrow hq
  go_wp2_with fail
  refine region_mixT 7 8 (by decide) mixed (by kernel_rfl) (by kernel_rfl) (fun u => #[_, _, _, _, _, _, _, _, _, _, _, _, _, _, _, _, _, _, _, _, _, _, _, _, _, _, _, _, _, _, _, _, _, _, _, _, _, _, _, _, _, _, _, _, _, _, _, _, _, _, _, _, _, _, _, _, _, _, _, _, _, _, _, _, _, _, _, _, _, _, _, _, _, _, _, _, _, _, _, _, _, _, _, _, _, _, _, _, _, _, _, _, _, _, _, _, _, _, _, _, _, _, _, _, _, _, _, _, _, _, _, _, _, _, _, _, _, u 0, u 1, u 2, u 3, u 4, u 5, u 6, _, _]) [] (fun _ => undef) rfl (geC w w5 B S) (show geC w w5 B S false _ from ⟨K05.out.below (Below.refl _ _).drew K05.out.lt, K25.out.below (Below.refl _ _).drew K25.out.lt, K35.out.below (Below.refl _ _).drew K35.out.lt, B5.out.trans (((Below.refl w5.heap.size w5).drew).mono B5.out.size)⟩) (fun _ i v _ => geS B k S r ad (.slice (some ad) L.length c) i v) ?mono ?step ?one ?last
  case mono => exact fun b i v W W' h _ _ hb => h
  case step =>
    intro bb u W j o hj hjk hneed ho hC hd
    rcases j with _ | _ | _ | _ | _ | _ | _ | _ | j
    all_goals try (simp only [List.getElem?_cons_zero, List.getElem?_cons_succ, Option.some.injEq] at ho; subst ho)
    · have KW := Lib.hid hC.1
      have HC := Lib.hid hC
      clear hC hd
      go_wp2_with (refine wpList_load_blk rfl 46 _ rfl B rfl KW.out Try.underlying46 rfl HSZ.out ?_)
      exact ⟨_, rfl, rfl, HC.out, Below.refl _ _⟩
    · go_wp2_with fail
      exact ⟨_, rfl, rfl, hC, Below.refl _ _⟩
    · have h1 : u 1 = .pointer (some ⟨B, 0, none⟩) := hd ⟨1, .data⟩ (by simp) rfl
      have cw := hC.1.cellOf HS0.out
      rw [h1]
      go_wp2_with fail
      exact ⟨_, by simp [upd, h1], rfl, hC, Below.refl _ _⟩
    · go_wp2_with fail
      exact ⟨_, rfl, rfl, hC, Below.refl _ _⟩
    · have h2 : u 2 = .slice (some ad) L.length c := hd ⟨2, .data⟩ (by simp) rfl
      have h3 : u 3 = .int .i64 (k : Int) := hd ⟨3, .data⟩ (by simp) rfl
      rw [h2, h3]
      go_wp2_with fail
      exact ⟨_, by first | (simp [upd, h2, h3]; done) | (simp [upd, h2, h3]; rfl), rfl, hC, Below.refl _ _⟩
    · have h4 : u 4 = .pointer (some (ad.add (k * 4))) := hd ⟨4, .data⟩ (by simp) rfl
      have HCW := Lib.hid (HCE.out W hC.2.2.2)
      rw [h4]
      go_wp2_with (refine wpList_load_addr rfl 28 _ rfl (ad.add (k * 4)) rfl r HCW.out Try.underlying28 rfl (by rw [size_ver, HRL.out]) ?_)
      exact ⟨_, by first | (simp [upd, h4]; done) | (simp [upd, h4]; rfl), rfl, hC, Below.refl _ _⟩
    · have h5 : u 5 = .agg r.toArray := hd ⟨5, .data⟩ (by simp) rfl
      rw [h5]
      go_wp2_with (refine wpList_build_at rfl 39 _ rfl _ (by simp only [List.map_toArray, List.map_cons, List.map_nil]; exact build_repV HROW.out _) ?_)
      exact ⟨_, by first | (simp [upd, h5]; done) | (simp [upd, h5]; rfl), rfl, hC, Below.refl _ _⟩
    · omega
    · omega
  case one =>
    intro u W o ho hC hd
    simp only [List.getElem?_cons_zero, List.getElem?_cons_succ, Option.some.injEq] at ho
    subst ho
    have h0 : u 0 = .agg S.toArray := hd ⟨0, .data⟩ (by simp) rfl
    obtain ⟨k0, k2, k3, hb⟩ := hC
    rw [if_neg (by decide)] at k2
    have KW := Lib.hid k2
    have M0 := Lib.hid (k0.rowOther (show B ≠ B + 2 by omega) S.toArray)
    have M2 := Lib.hid (k2.row S (by rw [HSL.out]; rfl))
    have M3 := Lib.hid (k3.rowOther (show B + 3 ≠ B + 2 by omega) S.toArray)
    have M4 := Lib.hid (below_setRow hb (show w.heap.size ≤ B + 2 by omega) S.toArray)
    clear hd k0 k2 k3 hb
    rw [h0]
    go_wp2_with (refine wpList_store_blk rfl 46 _ _ rfl (B + 2) S rfl rfl KW.out HSZ.out (by rw [HSL.out]; rfl) HSO.out ?_)
    exact ⟨undef, by first | (simp [upd, h0]; done) | (simp [upd, h0]; rfl), trivial, ⟨M0.out, M2.out, M3.out, M4.out⟩, fun i x _ h => h⟩
  case last =>
    intro u W o ho hC hSS
    simp only [List.getElem?_cons_zero, List.getElem?_cons_succ, Option.some.injEq] at ho
    subst ho
    have h6 : u 6 = .agg (vR r).toArray := hSS 6 (by decide)
    obtain ⟨k0, k2, k3, hb⟩ := hC
    rw [if_pos rfl] at k2
    have K3 := Lib.hid k3
    have M2 := Lib.hid (k2.rowOther (show B + 2 ≠ B + 3 by omega) (vR r).toArray)
    have M3 := Lib.hid (k3.row (vR r) (by rw [HV6.out]; rfl))
    have m4 := below_setRow hb (show w.heap.size ≤ B + 3 by omega) (vR r).toArray
    have M4 := Lib.hid m4
    have HRP : Hid (RepOkV (er lo (W.setRow (B + 3) (vR r).toArray)) (vR r) ⟨0, [], L.getD k noV⟩) := Lib.hid ⟨_, r, rfl, ⟨_, _, rfl⟩, Sl.none 1, HVR.out.below (er_belowS lo m4)⟩
    clear hSS k0 k2 k3 hb m4
    rw [h6]
    go_wp2_with (refine wpList_store_blk rfl 39 _ _ rfl (B + 3) (vR r) rfl rfl K3.out (by rw [size_rep, HV6.out]) (by rw [HV6.out]; rfl) H1C.out ?_)
    refine bodyPost_ret (v := .tuple #[.agg S.toArray, .agg (vR r).toArray]) (results_cells2 rfl _ _ (B + 2) (B + 3) rfl rfl M2.out M3.out Try.underlying46 rfl HSZ.out Try.underlying39 rfl (by rw [size_rep, HV6.out])) rfl ?_
    exact ⟨_, rfl, HRP.out, M4.out⟩
end Go.Proofs.Ytogonbgelaehhaa
namespace Go.Proofs.Ytogonbgelaehhaa
open Go.RowKit
set_option linter.unusedVariables false

set_option maxRecDepth 100000 in
theorem put_endV {w w12 : World} {B : Nat} {S R : List Value} {s : StU RawV} {L' : List RawV} {v : Value} {lo : Nat} (hB : w.heap.size ≤ B) (hst : StTold (er lo w) (.agg S.toArray) s) (hbw : Below w.heap.size w w12)
    (k0 : Blk w12 B 46 S) (k2 : Blk w12 (B + 2) 46 zS) (k3 : Blk w12 (B + 3) 39 zRp) (hv : ∀ wx, Below w.heap.size w wx → VsV (er lo wx) v L') (hR : R.length = 6) :
    Blk (w12.setCell ⟨B, 0, none⟩ v) B 46 (S.set 0 v) ∧ Blk (w12.setCell ⟨B, 0, none⟩ v) (B + 2) 46 zS ∧
    Blk ((w12.setCell ⟨B, 0, none⟩ v).setRow (B + 2) (S.set 0 v).toArray) (B + 3) 39 zRp ∧
    Blk (((w12.setCell ⟨B, 0, none⟩ v).setRow (B + 2) (S.set 0 v).toArray).setRow (B + 3) R.toArray) (B + 2) 46 (S.set 0 v) ∧
    Blk (((w12.setCell ⟨B, 0, none⟩ v).setRow (B + 2) (S.set 0 v).toArray).setRow (B + 3) R.toArray) (B + 3) 39 R ∧
    (S.set 0 v).toArray.all (·.oneCell') = true ∧ (S.set 0 v).length = 22 ∧
    StTold (er lo (((w12.setCell ⟨B, 0, none⟩ v).setRow (B + 2) (S.set 0 v).toArray).setRow (B + 3) R.toArray)) (.agg (S.set 0 v).toArray) ⟨L', s.seqs, s.last⟩ ∧
    Below w.heap.size w (((w12.setCell ⟨B, 0, none⟩ v).setRow (B + 2) (S.set 0 v).toArray).setRow (B + 3) R.toArray) := by
  have m0 := k0.set 0 v
  have m2 := k2.other (a := ⟨B, 0, none⟩) (show B ≠ B + 2 by omega) v
  have m3 := k3.other (a := ⟨B, 0, none⟩) (show B ≠ B + 3 by omega) v
  have h13 := hbw.setCell (p := ⟨B, 0, none⟩) hB v
  have h15 := below_setRow (below_setRow h13 (show w.heap.size ≤ B + 2 by omega) (S.set 0 v).toArray) (show w.heap.size ≤ B + 3 by omega) R.toArray
  have st := st_set hst (er_belowS lo h15) (hv _ h15)
  have hl : (S.set 0 v).length = zS.length := st.2.2
  exact ⟨m0, m2, m3.rowOther (show B + 3 ≠ B + 2 by omega) _, (m2.row _ hl).rowOther (show B + 2 ≠ B + 3 by omega) _, (m3.rowOther (show B + 3 ≠ B + 2 by omega) _).row R (by rw [hR]; rfl), st.2.1, st.2.2, st.1, h15⟩
set_option maxRecDepth 100000 in
set_option maxHeartbeats 4000000 in
theorem vr_Do3 (s : StU RawV) (v vo : Value) (kind : Int) (id : Nat) (r : Int) (a : RawV) (w : World) (lo : Nat) (hlo : lo ≤ w.heap.size) (hs : StTold (er lo w) v s) (ho : OpTold (er lo w) vo kind id a) (hl : s.vers.length ≤ 1000000) (hid : id < 4294967296) (hk : kind = 3) (hf : findV s.vers id = r) (m : Nat) (hm : s.vers.length - id = m) :
    Calls Try.prog 22 #[v, vo] w (DoRet lo s (s.vers.drop m) ⟨0, (s.vers.take m).map (·.id), noV⟩ w) := by
  obtain ⟨S, p, c, rfl, hSl, hS1, hS0, hV⟩ := st_cells hs
  obtain ⟨O, rfl, hOl, hO0, hO1, hO2, hOv⟩ := op_cells ho
  have hVe := hV
  have hOve := hOv
  replace hV := hV.sub (er_sub lo w)
  replace hOv := hOv.sub (er_sub lo w)
  obtain ⟨B, hB⟩ : ∃ B, w.heap.size = B := ⟨_, rfl⟩
  have k0 := Blk.newAt w B hB 46 (c := S.toArray) S rfl
  have z1 : (w.alloc (.cells S.toArray 46)).heap.size = B + 1 := by simp [hB]
  have k1 := Blk.newAt _ (B + 1) z1 30 (c := O.toArray) O rfl
  have z2 : ((w.alloc (.cells S.toArray 46)).alloc (.cells O.toArray 30)).heap.size = B + 2 := by simp [hB]
  have k2 := Blk.newAt _ (B + 2) z2 46 (c := zS.toArray) zS rfl
  have z3 : (((w.alloc (.cells S.toArray 46)).alloc (.cells O.toArray 30)).alloc (.cells zS.toArray 46)).heap.size = B + 3 := by simp [hB]
  have k3 := Blk.newAt _ (B + 3) z3 39 (c := zRp.toArray) zRp rfl
  have kb := ((((Below.refl w.heap.size w).alloc (Nat.le_refl _) (.cells S.toArray 46)).alloc (by simp) (.cells O.toArray 30)).alloc (by simp; omega) (.cells zS.toArray 46)).alloc (by simp; omega) (.cells zRp.toArray 39)
  have K0 := Lib.hid (((k0.alloc (.cells O.toArray 30)).alloc (.cells zS.toArray 46)).alloc (.cells zRp.toArray 39))
  have K1 := Lib.hid ((k1.alloc (.cells zS.toArray 46)).alloc (.cells zRp.toArray 39))
  have K2 := Lib.hid (k2.alloc (.cells zRp.toArray 39))
  have K3 := Lib.hid k3
  have KB := Lib.hid kb
  have Z3 := Lib.hid z3
  have Z2 := Lib.hid z2
  have HS0 := Lib.hid hS0
  have HO0 := Lib.hid hO0
  have HO1 := Lib.hid hO1
  have HO2 := Lib.hid hO2
  have HOV := Lib.hid (hOv.below kb)
  have HSL := Lib.hid hSl
  have HOL := Lib.hid hOl
  have HSO := Lib.hid hS1
  have HV := Lib.hid (hV.below kb)
  have HF := Lib.hid hf
  have HV0 := Lib.hid hVe
  have HOV0 := Lib.hid hOve
  have HST := Lib.hid hs
  have HL := Lib.hid hl
  have HSZ : Hid ((Try.prog.info? 46).map (·.size) = some S.length) := Lib.hid (by rw [size_st, hSl])
  have cl0 := K0.out.cellOf hS0
  have cl1 := K1.out.cellOf hO0
  have cl2 := K1.out.cellOf hO1
  clear k0 k1 k2 k3 kb z1 z2 z3 hS0 hO0 hO1 hO2 hOv hSl hS1 hV hf hl hs ho hOl hVe hOve
  generalize s.vers = L at *
  go_enter Try.func22, Try.ntmps22
  go_wp2_with (first | (refine wpList_alloc_n rfl 46 rfl (B + 2) Z2.out _ (alloc_st _) ?_) | (refine wpList_alloc_n rfl 39 rfl (B + 3) Z3.out _ (alloc_rep _) ?_))
  generalize (((w.alloc (.cells S.toArray 46)).alloc (.cells O.toArray 30)).alloc (.cells zS.toArray 46)).alloc (.cells zRp.toArray 39) = w4 at *
  clear cl0 cl1 cl2 Z2 Z3
  refine (vr_find L p c id r w4 HL.out HF.out HV.out).mono ?_
  rintro e w5 ⟨rfl, hb5⟩
  have K05 := Lib.hid (K0.out.below hb5 K0.out.lt)
  have K15 := Lib.hid (K1.out.below hb5 K1.out.lt)
  have K25 := Lib.hid (K2.out.below hb5 K2.out.lt)
  have K35 := Lib.hid (K3.out.below hb5 K3.out.lt)
  have B5 := Lib.hid (KB.out.trans (hb5.mono KB.out.size))
  have V5 := Lib.hid (HV.out.below hb5)
  have OV5 := Lib.hid (HOV.out.below hb5)
  clear K0 K1 K2 K3 KB HV HOV hb5 HF
  have cl0 := K05.out.cellOf HS0.out
  have cl1 := K15.out.cellOf HO0.out
  have cl2 := K15.out.cellOf HO1.out
  subst hk
  have hl9 := HL.out
  obtain ⟨pa, ca, hh1, hh2⟩ := cut_hi HV0.out m (by omega)
  obtain ⟨pd, cd, hd1, hd2⟩ := cut_lo HV0.out m (by omega)
  have hml : (L.take m).length = m := by rw [List.length_take]; omega
  have hb0 := B5.out
  have HIDS := Lib.hid (fun wx (h : Below w.heap.size w wx) => vr_ids (L.take m) pa ca wx (by omega) (by rw [hml]; exact hh2 wx ((HV0.out.sub (er_sub lo w)).below h)))
  rw [hml] at HIDS
  have HD := Lib.hid (fun wx (h : Below w.heap.size w wx) => hd2 (er lo wx) (HV0.out.below (er_belowS lo h)))
  have g2 : L.length ≤ 1000000 := HL.out
  have HM := Lib.hid hm
  have HID := Lib.hid hid
  clear hh2 hd2 hml hm hid hb0
  go_wp2_with fail
  go_loopw [9] (fun i wr => ∃ j : Nat, i = .int .i64 (j : Int) ∧ j ≤ m ∧ wr = w5) (fun i _ => L.length - (intOf i).toNat)
  case atStart => exact ⟨0, rfl, Nat.zero_le _, rfl⟩
  case round =>
    obtain ⟨j, rfl, hj, hwr⟩ := hrel
    have hwr' := hwr.symm
    subst hwr'
    have hm := HM.out
    have hid := HID.out
    obtain ⟨q, hq⟩ : ∃ q, L.length - j = q := ⟨_, rfl⟩
    have e1 : (L.length : Int) - (j : Int) = (q : Int) := by omega
    have e2 : IntKind.u64.wrap (q : Int) = (q : Int) := IntWalk.u64_in _ (by omega)
    have e3 : IntKind.u64.wrap (id : Int) = (id : Int) := IntWalk.u64_in _ (by omega)
    have b1 : (j : Int) ≤ (L.length : Int) := by omega
    by_cases hlt : j < m
    · have d1 : (id : Int) < (q : Int) := by omega
      have HJ := Lib.hid hlt
      have HQ := Lib.hid hq
      clear hm hid hj hlt hq
      go_wp2_with fail
      go_roundw
      case rel => exact ⟨j + 1, by go_num, by have := HJ.out; omega, trivial⟩
      case measure => (have := HJ.out; have := HM.out; simp [intOf]; omega)
    · obtain rfl : j = m := by omega
      have d1 : ¬ (id : Int) < (q : Int) := by omega
      clear hm hid hj hlt hq
      go_wp2_with fail
      (with_reducible refine (HIDS.out w5 B5.out).mono ?_)
      rintro e w6 ⟨vi, rfl, hO, hb6⟩
      obtain ⟨p3, c3, rfl⟩ := hO.isSlice
      rw [rowsU_len, List.length_map] at hO ⊢
      obtain ⟨n3, hn3⟩ : ∃ n3, (L.take j).length = n3 := ⟨_, rfl⟩
      rw [hn3] at hO ⊢
      have k06 := K05.out.below hb6 K05.out.lt
      have k26 := K25.out.below hb6 K25.out.lt
      have k36 := K35.out.below hb6 K35.out.lt
      have b6 := B5.out.trans (hb6.mono B5.out.size)
      have hlt36 : B + 3 < w5.heap.size := K35.out.lt
      have cl06 := k06.cellOf HS0.out
      have fr06 := k06.free 0
      have PE := Lib.hid (put_endV (B := B) (R := iR (.slice p3 n3 c3)) (by omega) HST.out b6 k06 k26 k36 (fun wx h => HD.out wx h) rfl)
      have o1 := hO.cellOther k06 (by decide) 0 (.slice pd (L.length - j) cd)
      have o2 := o1.rowApart (B + 2) (S.set 0 (.slice pd (L.length - j) cd)).toArray (fun b e => by have := (hO.lt b e).1; omega)
      have o3 := o2.rowApart (B + 3) (iR (.slice p3 n3 c3)).toArray (fun b e => by have := (hO.lt b e).1; omega)
      have HRP : Hid (RepOkV (er lo _) (iR (.slice p3 n3 c3)) ⟨0, (L.take j).map (·.id), noV⟩) := Lib.hid ⟨_, _, rfl, ⟨p3, c3, by rw [List.length_map, hn3]⟩, (own_er lo o3 (by decide)).sl, VV.none _⟩
      have H1C : Hid ((iR (.slice p3 n3 c3)).toArray.all (·.oneCell') = true) := Lib.hid (by simp [iR, cellsR, Value.oneCell'])
      clear hO hb6 hn3 k06 k26 k36 b6 hlt36 o1 o2 o3
      go_wp2_with (first
        | (refine wpList_load_blk rfl 46 _ rfl B rfl PE.out.1 Try.underlying46 rfl (by rw [size_st, PE.out.2.2.2.2.2.2.1]) ?_)
        | (refine wpList_build_at rfl 39 _ rfl _ (by simp only [List.map_toArray, List.map_cons, List.map_nil]; exact build_repI _ _ _ _) ?_)
        | (refine wpList_store_blk rfl 46 _ _ rfl (B + 2) (S.set 0 (.slice pd (L.length - j) cd)) rfl rfl PE.out.2.1 (by rw [size_st, PE.out.2.2.2.2.2.2.1]) (by rw [PE.out.2.2.2.2.2.2.1]; rfl) PE.out.2.2.2.2.2.1 ?_)
        | (refine wpList_store_blk rfl 39 _ _ rfl (B + 3) (iR (.slice p3 n3 c3)) rfl rfl PE.out.2.2.1 (by rw [size_rep]; rfl) rfl H1C.out ?_))
      refine bodyPost_ret (v := .tuple #[.agg (S.set 0 (.slice pd (L.length - j) cd)).toArray, .agg (iR (.slice p3 n3 c3)).toArray]) (results_cells2 rfl _ _ (B + 2) (B + 3) rfl rfl PE.out.2.2.2.1 PE.out.2.2.2.2.1 Try.underlying46 rfl (by rw [size_st, PE.out.2.2.2.2.2.2.1]) Try.underlying39 rfl (by rw [size_rep]; rfl)) rfl ?_
      exact ⟨_, _, rfl, PE.out.2.2.2.2.2.2.2.1, HRP.out, PE.out.2.2.2.2.2.2.2.2⟩
end Go.Proofs.Ytogonbgelaehhaa
namespace Go.Proofs.Ytogonbgelaehhaa
open Go.RowKit
set_option linter.unusedVariables false

def mayR (a : RawV) : Bool := mayH a.bl.length a.ns a.zs
abbrev doR (l : List RawV) (kind : Int) (i : Nat) (a : RawV) : List RawV × RepU RawV := doU RawV.id mayR noV l kind i a
theorem idx_cases (l : List RawV) (id : Nat) : (l.findIdx? (fun v => decide (v.id = id)) = none ∧ hasU RawV.id l id = false ∧ l.find? (fun v => decide (v.id = id)) = none) ∨
    ∃ k, k < l.length ∧ l.findIdx? (fun v => decide (v.id = id)) = some k ∧ hasU RawV.id l id = true ∧ l.eraseP (fun v => decide (v.id = id)) = l.take k ++ l.drop (k + 1) ∧ l.find? (fun v => decide (v.id = id)) = some (l.getD k noV) := by
  induction l with
  | nil => exact .inl ⟨rfl, rfl, rfl⟩
  | cons x l ih =>
    by_cases hx : x.id = id
    · refine .inr ⟨0, by simp, by simp [List.findIdx?_cons, hx], by simp [hasU, hx], by simp [hx], by simp [hx]⟩
    · rcases ih with ⟨h1, h2, h3⟩ | ⟨k, hk, h1, h2, h3, h4⟩
      · refine .inl ⟨by simp [List.findIdx?_cons, hx, h1], ?_, by simp [hx, h3]⟩
        unfold hasU at h2 ⊢
        rw [List.any_cons, h2]
        simp [hx]
      · refine .inr ⟨k + 1, by simpa using hk, by simp [List.findIdx?_cons, hx, h1], ?_, ?_, ?_⟩
        · unfold hasU at h2 ⊢
          rw [List.any_cons, h2]
          simp
        · rw [List.eraseP_cons, h3]
          simp [hx]
        · rw [List.find?_cons, h4]
          simp [hx]
theorem findV_cases (l : List RawV) (id : Nat) : (findV l id = -1 ∧ hasU RawV.id l id = false ∧ l.find? (fun v => decide (v.id = id)) = none) ∨
    ∃ k, k < l.length ∧ findV l id = (k : Int) ∧ hasU RawV.id l id = true ∧ l.eraseP (fun v => decide (v.id = id)) = l.take k ++ l.drop (k + 1) ∧ l.find? (fun v => decide (v.id = id)) = some (l.getD k noV) := by
  rcases idx_cases l id with ⟨h1, h2⟩ | ⟨k, hk, h1, h2⟩
  · exact .inl ⟨by unfold findV; rw [h1], h2⟩
  · exact .inr ⟨k, hk, by unfold findV; rw [h1], h2⟩
theorem DoRet.same {lo : Nat} {s : StU RawV} {v : Value} {r : List Value} {x : RepU RawV} {w w' : World} {e : Ending} (hs : StTold (er lo w) v s) (he : e = .returned (.tuple #[v, .agg r.toArray])) (hr : RepOkV (er lo w') r x) (hb : Below w.heap.size w w') : DoRet lo s s.vers x w e w' := ⟨v, r, he, hs.below (er_belowS lo hb), hr, hb⟩
theorem vr_Do (s : StU RawV) (v vo : Value) (kind : Int) (id : Nat) (a : RawV) (w : World) (lo : Nat) (hlo : lo ≤ w.heap.size) (hs : StTold (er lo w) v s) (ho : OpTold (er lo w) vo kind id a) (hl : s.vers.length ≤ 1000000) (hid : id < 4294967296) (ha : a.ok) (hn : a.bl.length ≤ 1000 ∧ a.ns.length ≤ 1000 ∧ a.zs.length ≤ 1000) :
    Calls Try.prog 22 #[v, vo] w (DoRet lo s (doR s.vers kind id a).1 (doR s.vers kind id a).2 w) := by
  have hs' := hs.sub (er_sub lo w)
  have ho' := ho.sub (er_sub lo w)
  by_cases k1 : kind = 1
  · by_cases hm : mayR a = true
    · rcases findV_cases s.vers a.id with ⟨hf, hh, _⟩ | ⟨k, hk, hf, hh, _⟩
      · by_cases h8 : 8 ≤ s.vers.length
        · have e : doR s.vers kind id a = (s.vers, ⟨2, [], noV⟩) := by unfold doR doU; rw [if_pos k1, if_pos hm, hh, if_neg (by decide), if_pos h8]; rfl
          rw [e]
          exact (vr_Do1f s v vo kind id a w hs' ho' hl _ k1 rfl ha hn hm hf h8).mono fun _ _ ⟨q1, q2⟩ => DoRet.same hs q1 (eR_told _ 2) q2
        · have e : doR s.vers kind id a = (s.vers ++ [a], ⟨0, [], noV⟩) := by unfold doR doU; rw [if_pos k1, if_pos hm, hh, if_neg (by decide), if_neg h8]
          rw [e]
          exact vr_Do1 s v vo kind id a w lo hlo hs ho hl _ k1 rfl ha hn hm hf (by omega)
      · have e : doR s.vers kind id a = (s.vers, ⟨4, [], noV⟩) := by unfold doR doU; rw [if_pos k1, if_pos hm, hh, if_pos rfl]; rfl
        rw [e]
        exact (vr_Do1t s v vo kind id a w hs' ho' hl _ _ k1 rfl ha hn hm hf (by omega)).mono fun _ _ ⟨q1, q2⟩ => DoRet.same hs q1 (eR_told _ 4) q2
    · have hm' : mayR a = false := by simpa using hm
      have e : doR s.vers kind id a = (s.vers, ⟨1, [], noV⟩) := by unfold doR doU; rw [if_pos k1, if_neg hm]; rfl
      rw [e]
      exact (vr_Do1a s v vo kind id a w hs' ho' hl _ k1 rfl ha hn hm').mono fun _ _ ⟨q1, q2⟩ => DoRet.same hs q1 (eR_told _ 1) q2
  by_cases k2 : kind = 2
  · rcases findV_cases s.vers id with ⟨hf, hh, _⟩ | ⟨k, hk, hf, hh, hE, _⟩
    · have e : doR s.vers kind id a = (s.vers, ⟨3, [], noV⟩) := by unfold doR doU; rw [if_neg k1, if_pos k2, hh, if_neg (by decide)]; rfl
      rw [e]
      exact (vr_Do2e s v vo kind id a w hs' ho' hl k2 hf).mono fun _ _ ⟨q1, q2⟩ => DoRet.same hs q1 (eR_told _ 3) q2
    · have e : doR s.vers kind id a = (s.vers.take k ++ s.vers.drop (k + 1), ⟨0, [], noV⟩) := by unfold doR doU; rw [if_neg k1, if_pos k2, hh, if_pos rfl, hE]
      rw [e]
      exact vr_Do2 s v vo kind id k a w lo hlo hs ho hl k2 hf hk
  by_cases k3 : kind = 3
  · have e : doR s.vers kind id a = (s.vers.drop (s.vers.length - id), ⟨0, (s.vers.take (s.vers.length - id)).map (·.id), noV⟩) := by unfold doR doU; rw [if_neg k1, if_neg k2, if_pos k3]
    rw [e]
    exact vr_Do3 s v vo kind id _ a w lo hlo hs ho hl hid k3 rfl _ rfl
  by_cases k4 : kind = 4
  · have e : doR s.vers kind id a = (s.vers, ⟨0, s.vers.map (·.id), noV⟩) := by unfold doR doU; rw [if_neg k1, if_neg k2, if_neg k3, if_pos k4]
    rw [e]
    exact (vr_Do4 s v vo kind id _ a w lo hs' ho' hl k4 rfl).mono fun _ _ ⟨x, q1, q2, q3⟩ => DoRet.same hs q1 q2 q3
  by_cases k5 : kind = 5
  · rcases findV_cases s.vers id with ⟨hf, hh, hF⟩ | ⟨k, hk, hf, hh, _, hF⟩
    · have e : doR s.vers kind id a = (s.vers, ⟨3, [], noV⟩) := by unfold doR doU; rw [if_neg k1, if_neg k2, if_neg k3, if_neg k4, if_pos k5, hF]; rfl
      rw [e]
      exact (vr_Do5e s v vo kind id a w hs' ho' hl k5 hf).mono fun _ _ ⟨q1, q2⟩ => DoRet.same hs q1 (eR_told _ 3) q2
    · have e : doR s.vers kind id a = (s.vers, ⟨0, [], s.vers.getD k noV⟩) := by unfold doR doU; rw [if_neg k1, if_neg k2, if_neg k3, if_neg k4, if_pos k5, hF]
      rw [e]
      exact (vr_Do5 s v vo kind id k a w lo hlo hs ho hl k5 hf hk).mono fun _ _ ⟨x, q1, q2, q3⟩ => DoRet.same hs q1 q2 q3
  · have e : doR s.vers kind id a = (s.vers, ⟨180, [], noV⟩) := by unfold doR doU; rw [if_neg k1, if_neg k2, if_neg k3, if_neg k4, if_neg k5]; rfl
    rw [e]
    exact (vr_Doxe s v vo kind id a w hs' ho' hl _ ⟨k1, k2, k3, k4, k5⟩ rfl).mono fun _ _ ⟨q1, q2⟩ => DoRet.same hs q1 (eR_told _ 180) q2
end Go.Proofs.Ytogonbgelaehhaa
