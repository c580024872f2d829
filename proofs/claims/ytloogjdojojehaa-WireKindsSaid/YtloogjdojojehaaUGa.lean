/- The vault, by plain lists: what an op does, what requests come to, each once; over any kind of versions (stage 17). -/
import Derived.Test.YtloogjdojojehaaG1
import Derived.Test.YtloogjdojojehaaHG
import Derived.Test.YtloogjdojojehaaJ1
import Derived.Test.YtloogjdojojehaaZ0
import Derived.Test.YtloogjdojojehaaG4
import Derived.Test.YtloogjdojojehaaG3
import Derived.BigQuiet
import Derived.Test.YtloogjdojojehaaMxt
import Derived.IntWalk
namespace Go.Proofs.Ytloogjdojojehaa
set_option linter.unusedVariables false

/-- a reply: an error's number, Ids, a version -/
structure RepU (α : Type) where
  err : Nat
  ids : List Nat
  ver : α
section
variable {α : Type} (idOf : α → Nat) (may : α → Bool) (d : α)
def wrongU (e : Nat) : RepU α := ⟨e, [], d⟩
def hasU (l : List α) (i : Nat) : Bool := l.any fun v => decide (idOf v = i)
/-- the versions behind an op, and its reply -/
def doU (l : List α) (kind : Int) (i : Nat) (v : α) : List α × RepU α :=
  if kind = 1 then (if may v then (if hasU idOf l (idOf v) then (l, wrongU d 4) else if 8 ≤ l.length then (l, wrongU d 2) else (l ++ [v], ⟨0, [], d⟩)) else (l, wrongU d 1))
  else if kind = 2 then (if hasU idOf l i then (l.eraseP (fun v => decide (idOf v = i)), ⟨0, [], d⟩) else (l, wrongU d 3))
  else if kind = 3 then (l.drop (l.length - i), ⟨0, (l.take (l.length - i)).map idOf, d⟩)
  else if kind = 4 then (l, ⟨0, l.map idOf, d⟩)
  else if kind = 5 then (match l.find? (fun v => decide (idOf v = i)) with | some x => (l, ⟨0, [], x⟩) | none => (l, wrongU d 3))
  else (l, wrongU d 180)
/-- what a state's versions are: each may be, none has another one's Id, no more than may be -/
structure VersU (l : List α) : Prop where
  each : ∀ v ∈ l, may v = true
  once : (l.map idOf).Nodup
  few : l.length ≤ 8
theorem vers_nil : VersU idOf may ([] : List α) := ⟨fun v h => (by cases h), List.nodup_nil, by simp⟩
theorem has_iff {l : List α} {i : Nat} : hasU idOf l i = true ↔ i ∈ l.map idOf := by
  unfold hasU
  simp only [List.any_eq_true, decide_eq_true_eq, List.mem_map]
theorem do_vers {l : List α} (h : VersU idOf may l) (kind : Int) (i : Nat) (v : α) : VersU idOf may (doU idOf may d l kind i v).1 := by
  unfold doU
  by_cases k1 : kind = 1
  · rw [if_pos k1]
    by_cases hm : may v = true
    · rw [if_pos hm]
      by_cases ht : hasU idOf l (idOf v) = true
      · rw [if_pos ht]; exact h
      · rw [if_neg ht]
        by_cases h8 : 8 ≤ l.length
        · rw [if_pos h8]; exact h
        · rw [if_neg h8]
          refine ⟨fun x hx => ?_, ?_, by simp; omega⟩
          · rcases List.mem_append.1 hx with hx | hx
            · exact h.each x hx
            · rw [List.mem_singleton.1 hx]; exact hm
          · show ((l ++ [v]).map idOf).Nodup
            rw [List.map_append]
            refine List.nodup_append.2 ⟨h.once, by simp, ?_⟩
            intro a ha b hb e
            rw [List.map_singleton, List.mem_singleton] at hb
            subst hb
            subst e
            exact ht ((has_iff idOf).2 ha)
    · rw [if_neg hm]; exact h
  rw [if_neg k1]
  by_cases k2 : kind = 2
  · rw [if_pos k2]
    split
    · refine ⟨fun x hx => h.each x (List.mem_of_mem_eraseP hx), ?_, ?_⟩
      · exact List.Sublist.nodup (List.Sublist.map _ List.eraseP_sublist) h.once
      · exact Nat.le_trans (List.Sublist.length_le List.eraseP_sublist) h.few
    · exact h
  rw [if_neg k2]
  by_cases k3 : kind = 3
  · rw [if_pos k3]
    refine ⟨fun x hx => h.each x (List.mem_of_mem_drop hx), ?_, ?_⟩
    · exact List.Sublist.nodup (List.Sublist.map _ (List.drop_sublist _ _)) h.once
    · have := h.few
      simp only [List.length_drop]
      omega
  rw [if_neg k3]
  by_cases k4 : kind = 4
  · rw [if_pos k4]; exact h
  rw [if_neg k4]
  by_cases k5 : kind = 5
  · rw [if_pos k5]
    split <;> exact h
  · rw [if_neg k5]; exact h
/-- an error: nothing is changed, nothing else is told -/
theorem do_err {l : List α} {kind : Int} {i : Nat} {v : α} (h : (doU idOf may d l kind i v).2.err ≠ 0) : (doU idOf may d l kind i v).1 = l ∧ (doU idOf may d l kind i v).2.ids = [] ∧ (doU idOf may d l kind i v).2.ver = d := by
  unfold doU at h ⊢
  by_cases k1 : kind = 1
  · rw [if_pos k1] at h ⊢
    by_cases hm : may v = true
    · rw [if_pos hm] at h ⊢
      by_cases ht : hasU idOf l (idOf v) = true
      · rw [if_pos ht]; exact ⟨rfl, rfl, rfl⟩
      · rw [if_neg ht] at h ⊢
        by_cases h8 : 8 ≤ l.length
        · rw [if_pos h8]; exact ⟨rfl, rfl, rfl⟩
        · rw [if_neg h8] at h; exact absurd rfl h
    · rw [if_neg hm]; exact ⟨rfl, rfl, rfl⟩
  rw [if_neg k1] at h ⊢
  by_cases k2 : kind = 2
  · rw [if_pos k2] at h ⊢
    by_cases ht : hasU idOf l i = true
    · rw [if_pos ht] at h; exact absurd rfl h
    · rw [if_neg ht]; exact ⟨rfl, rfl, rfl⟩
  rw [if_neg k2] at h ⊢
  by_cases k3 : kind = 3
  · rw [if_pos k3] at h; exact absurd rfl h
  rw [if_neg k3] at h ⊢
  by_cases k4 : kind = 4
  · rw [if_pos k4] at h; exact absurd rfl h
  rw [if_neg k4] at h ⊢
  by_cases k5 : kind = 5
  · rw [if_pos k5] at h ⊢
    cases hf : l.find? (fun v => decide (idOf v = i)) with
    | some x => rw [hf] at h; exact absurd rfl h
    | none => exact ⟨rfl, rfl, rfl⟩
  · rw [if_neg k5]; exact ⟨rfl, rfl, rfl⟩
/-! ### requests -/
structure StU (α : Type) where
  vers : List α
  seqs : List Nat
  last : List (RepU α)
structure ReqU (α : Type) where
  client : Int
  seq : Nat
  kind : Int
  id : Nat
  ver : α
def stU0 : StU α := ⟨[], [0, 0, 0], [wrongU d 0, wrongU d 0, wrongU d 0]⟩
def applyU (s : StU α) (r : ReqU α) : StU α × RepU α :=
  if r.client < 0 ∨ 3 ≤ r.client ∨ r.seq = 0 then (s, wrongU d 170)
  else if r.seq = s.seqs.getD r.client.toNat 0 then (s, s.last.getD r.client.toNat (wrongU d 0))
  else if r.seq < s.seqs.getD r.client.toNat 0 then (s, wrongU d 171)
  else (⟨(doU idOf may d s.vers r.kind r.id r.ver).1, s.seqs.set r.client.toNat r.seq, s.last.set r.client.toNat (doU idOf may d s.vers r.kind r.id r.ver).2⟩, (doU idOf may d s.vers r.kind r.id r.ver).2)
structure StOk (s : StU α) : Prop where
  vers : VersU idOf may s.vers
  seqs : s.seqs.length = 3
  last : s.last.length = 3
theorem st_ok0 : StOk idOf may (stU0 d) := ⟨vers_nil idOf may, rfl, rfl⟩
theorem apply_ok {s : StU α} (h : StOk idOf may s) (r : ReqU α) : StOk idOf may (applyU idOf may d s r).1 := by
  unfold applyU
  split
  · exact h
  · split
    · exact h
    · split
      · exact h
      · exact ⟨do_vers idOf may d h.vers _ _ _, by simp [h.seqs], by simp [h.last]⟩
/-- a request that comes again changes nothing, and is answered alike -/
theorem apply_twice {s : StU α} (h : StOk idOf may s) (r : ReqU α) : applyU idOf may d (applyU idOf may d s r).1 r = ((applyU idOf may d s r).1, (applyU idOf may d s r).2) := by
  by_cases h1 : r.client < 0 ∨ 3 ≤ r.client ∨ r.seq = 0
  · have e : ∀ s : StU α, applyU idOf may d s r = (s, wrongU d 170) := fun s => by unfold applyU; rw [if_pos h1]
    rw [e, e]
  · by_cases h2 : r.seq = s.seqs.getD r.client.toNat 0
    · have e : applyU idOf may d s r = (s, s.last.getD r.client.toNat (wrongU d 0)) := by unfold applyU; rw [if_neg h1, if_pos h2]
      rw [e]
      simp only
      exact e
    · by_cases h3 : r.seq < s.seqs.getD r.client.toNat 0
      · have e : applyU idOf may d s r = (s, wrongU d 171) := by unfold applyU; rw [if_neg h1, if_neg h2, if_pos h3]
        rw [e]
        simp only
        exact e
      · have hc : r.client.toNat < 3 := by omega
        have e : applyU idOf may d s r = (⟨(doU idOf may d s.vers r.kind r.id r.ver).1, s.seqs.set r.client.toNat r.seq, s.last.set r.client.toNat (doU idOf may d s.vers r.kind r.id r.ver).2⟩, (doU idOf may d s.vers r.kind r.id r.ver).2) := by
          unfold applyU; rw [if_neg h1, if_neg h2, if_neg h3]
        rw [e]
        simp only
        have g1 : (s.seqs.set r.client.toNat r.seq).getD r.client.toNat 0 = r.seq := by
          rw [List.getD_eq_getElem?_getD, List.getElem?_set_self (by rw [h.seqs]; exact hc)]; rfl
        have g2 : (s.last.set r.client.toNat (doU idOf may d s.vers r.kind r.id r.ver).2).getD r.client.toNat (wrongU d 0) = (doU idOf may d s.vers r.kind r.id r.ver).2 := by
          rw [List.getD_eq_getElem?_getD, List.getElem?_set_self (by rw [h.last]; exact hc)]; rfl
        unfold applyU
        rw [if_neg h1]
        simp only
        rw [g1, g2, if_pos rfl]
/-- its number is that client's last one then, unless it was over, or no client's -/
theorem apply_seq {s : StU α} (h : StOk idOf may s) {r : ReqU α} (h1 : ¬ (r.client < 0 ∨ 3 ≤ r.client ∨ r.seq = 0)) (h2 : ¬ r.seq < s.seqs.getD r.client.toNat 0) : (applyU idOf may d s r).1.seqs.getD r.client.toNat 0 = r.seq := by
  have hc : r.client.toNat < 3 := by omega
  unfold applyU
  rw [if_neg h1]
  by_cases h3 : r.seq = s.seqs.getD r.client.toNat 0
  · rw [if_pos h3]; exact h3.symm
  · rw [if_neg h3, if_neg h2]
    simp only
    rw [List.getD_eq_getElem?_getD, List.getElem?_set_self (by rw [h.seqs]; exact hc)]
    rfl
/-- all requests, in order -/
def allU (s : StU α) : List (ReqU α) → StU α × List (RepU α)
  | [] => (s, [])
  | r :: l => ((allU (applyU idOf may d s r).1 l).1, (applyU idOf may d s r).2 :: (allU (applyU idOf may d s r).1 l).2)
theorem all_ok {s : StU α} (h : StOk idOf may s) : ∀ l, StOk idOf may (allU idOf may d s l).1
  | [] => h
  | r :: l => all_ok (apply_ok idOf may d h r) l
theorem all_len (s : StU α) : ∀ l, (allU idOf may d s l).2.length = l.length
  | [] => rfl
  | r :: l => by rw [allU, List.length_cons, List.length_cons, all_len _ l]
theorem all_parts (s : StU α) : ∀ a b, allU idOf may d s (a ++ b) = ((allU idOf may d (allU idOf may d s a).1 b).1, (allU idOf may d s a).2 ++ (allU idOf may d (allU idOf may d s a).1 b).2)
  | [], b => rfl
  | r :: a, b => by
    rw [List.cons_append, allU, allU, all_parts _ a b]
    rfl
theorem all_snoc (s : StU α) (a : List (ReqU α)) (r : ReqU α) : allU idOf may d s (a ++ [r]) = ((applyU idOf may d (allU idOf may d s a).1 r).1, (allU idOf may d s a).2 ++ [(applyU idOf may d (allU idOf may d s a).1 r).2]) := by
  rw [all_parts]
  rfl
end
/-! ### live blocks -/
def liveStep (acc : List (List Nat)) (h : List Nat) : List (List Nat) := if h ∈ acc then acc else acc ++ [h]
def liveU (l : List (List Nat)) : List (List Nat) := l.foldl liveStep []
theorem live_step_nodup {acc : List (List Nat)} (h : acc.Nodup) (x : List Nat) : (liveStep acc x).Nodup := by
  unfold liveStep
  split
  · exact h
  · rename_i hx
    refine List.nodup_append.2 ⟨h, by simp, ?_⟩
    intro a ha b hb e
    rw [List.mem_singleton] at hb
    subst hb
    subst e
    exact hx ha
theorem live_nodup (l : List (List Nat)) : (liveU l).Nodup := by
  have : ∀ (l : List (List Nat)) (acc : List (List Nat)), acc.Nodup → (l.foldl liveStep acc).Nodup := fun l => by
    induction l with
    | nil => exact fun acc h => h
    | cons x l ih => exact fun acc h => ih _ (live_step_nodup h x)
  exact this l [] List.nodup_nil
theorem live_snoc (l : List (List Nat)) (x : List Nat) : liveU (l ++ [x]) = liveStep (liveU l) x := by unfold liveU; rw [List.foldl_append]; rfl
end Go.Proofs.Ytloogjdojojehaa
namespace Go.Proofs.Ytloogjdojojehaa
open Go.RowKit
set_option linter.unusedVariables false

/-- rows that tell these versions -/
def TellVs (w : World) (rows : List (List Value)) (l : List RawV) : Prop := rows.length = l.length ∧ ∀ i, i < l.length → ∃ r, rows[i]? = some r ∧ VV w (.agg r.toArray) (l.getD i noV)
theorem TellVs.below {w w' : World} {rows : List (List Value)} {l : List RawV} (h : TellVs w rows l) (hb : Below w.heap.size w w') : TellVs w' rows l := by
  refine ⟨h.1, fun i hi => ?_⟩
  obtain ⟨r, h1, h2⟩ := h.2 i hi
  exact ⟨r, h1, h2.below hb⟩
theorem TellVs.nil (w : World) : TellVs w [] [] := ⟨rfl, fun i h => by simp at h⟩
theorem TellVs.app {w : World} {r1 r2 : List (List Value)} {l1 l2 : List RawV} (h1 : TellVs w r1 l1) (h2 : TellVs w r2 l2) : TellVs w (r1 ++ r2) (l1 ++ l2) := by
  refine ⟨by rw [List.length_append, List.length_append, h1.1, h2.1], fun i hi => ?_⟩
  by_cases hl : i < l1.length
  · obtain ⟨r, e1, e2⟩ := h1.2 i hl
    refine ⟨r, by rw [List.getElem?_append_left (by rw [h1.1]; exact hl)]; exact e1, ?_⟩
    rw [List.getD_eq_getElem?_getD, List.getElem?_append_left hl, ← List.getD_eq_getElem?_getD]
    exact e2
  · rw [List.length_append] at hi
    obtain ⟨r, e1, e2⟩ := h2.2 (i - l1.length) (by omega)
    refine ⟨r, by rw [List.getElem?_append_right (by rw [h1.1]; omega), h1.1]; exact e1, ?_⟩
    rw [List.getD_eq_getElem?_getD, List.getElem?_append_right (by omega), ← List.getD_eq_getElem?_getD]
    exact e2
theorem TellVs.one {w : World} {r : List Value} {a : RawV} (h : VV w (.agg r.toArray) a) : TellVs w [r] [a] := ⟨rfl, fun i hi => by
  have : i = 0 := by simpa using hi
  subst this
  exact ⟨r, rfl, h⟩⟩
theorem TellVs.take {w : World} {rows : List (List Value)} {l : List RawV} (h : TellVs w rows l) (n : Nat) : TellVs w (rows.take n) (l.take n) := by
  refine ⟨by rw [List.length_take, List.length_take, h.1], fun i hi => ?_⟩
  rw [List.length_take] at hi
  obtain ⟨r, e1, e2⟩ := h.2 i (by omega)
  refine ⟨r, by rw [List.getElem?_take_of_lt (by omega)]; exact e1, ?_⟩
  rw [List.getD_eq_getElem?_getD, List.getElem?_take_of_lt (by omega), ← List.getD_eq_getElem?_getD]
  exact e2
theorem TellVs.drop {w : World} {rows : List (List Value)} {l : List RawV} (h : TellVs w rows l) (n : Nat) : TellVs w (rows.drop n) (l.drop n) := by
  refine ⟨by rw [List.length_drop, List.length_drop, h.1], fun i hi => ?_⟩
  rw [List.length_drop] at hi
  obtain ⟨r, e1, e2⟩ := h.2 (n + i) (by omega)
  refine ⟨r, by rw [List.getElem?_drop]; exact e1, ?_⟩
  rw [List.getD_eq_getElem?_getD, List.getElem?_drop, ← List.getD_eq_getElem?_getD]
  exact e2
/-- nil, or a slice of memory -/
def NilOk (v : Value) : Prop := v = .slice none 0 0 ∨ ∃ ad n c, v = .slice (some ad) n c ∧ n ≤ c
theorem NilOk.nil {v : Value} (h : NilOk v) : v = .slice none 0 0 ∨ ∃ ad n c, v = .slice (some ad) n c := by
  rcases h with h | ⟨ad, n, c, h, _⟩
  · exact .inl h
  · exact .inr ⟨ad, n, c, h⟩
/-- the slice value tells these versions -/
def VsV (w : World) (v : Value) (l : List RawV) : Prop := (∃ rows, Sl w 4 v rows ∧ TellVs w rows l) ∧ NilOk v
theorem VsV.below {w w' : World} {v : Value} {l : List RawV} (h : VsV w v l) (hb : Below w.heap.size w w') : VsV w' v l := by
  obtain ⟨⟨rows, h1, h2⟩, h3⟩ := h
  exact ⟨⟨rows, h1.below hb, h2.below hb⟩, h3⟩
theorem VsV.nil (w : World) : VsV w (.slice none 0 0) [] := ⟨⟨[], Sl.none 4, TellVs.nil w⟩, .inl rfl⟩
theorem VsV.isSlice {w : World} {v : Value} {l : List RawV} (h : VsV w v l) : ∃ p c, v = .slice p l.length c := by
  obtain ⟨⟨rows, h1, h2⟩, _⟩ := h
  obtain ⟨p, c, e⟩ := h1.isSlice
  exact ⟨p, c, by rw [e, h2.1]⟩
/-- a version in its place -/
theorem VsV.at {w : World} {p : Option Addr} {n c : Nat} {l : List RawV} (h : VsV w (.slice p n c) l) {i : Nat} (hi : i < l.length) :
    ∃ (a : Addr) (r : List Value), p = some a ∧ a.block < w.heap.size ∧ VV w (.agg r.toArray) (l.getD i noV) ∧ r.length = 4 ∧ ∀ j x, r[j]? = some x → w.cell? ((a.add (i * 4)).add j) = some x := by
  obtain ⟨⟨rows, h1, h2⟩, _⟩ := h
  obtain ⟨r, e1, e2⟩ := h2.2 i hi
  obtain ⟨hk, p', c', e, hc⟩ := h1
  cases e
  obtain ⟨a, q1, q2, q3⟩ := hc i r e1
  exact ⟨a, r, q1, q2, e2, hk r (List.mem_of_getElem? e1), fun j x hx => by rw [Deep.add_add]; exact q3 j x hx⟩
theorem VsV.id_at {w : World} {p : Option Addr} {n c : Nat} {l : List RawV} (h : VsV w (.slice p n c) l) {i : Nat} (hi : i < l.length) :
    ∃ a : Addr, p = some a ∧ w.cell? (a.add (i * 4)) = some (.int .u32 ((l.getD i noV).id : Int)) := by
  obtain ⟨a, r, q1, _, ⟨vb, vn, vz, e, _⟩, _, q3⟩ := h.at hi
  have e' : r = cellsV (l.getD i noV).id vb vn vz := by
    have := congrArg (fun v => match v with | Value.agg c => c.toList | _ => []) e
    simpa using this
  subst e'
  refine ⟨a, q1, ?_⟩
  have := q3 0 _ rfl
  rwa [Deep.add_add, Nat.add_zero] at this
theorem VsV.taken {w : World} {a : Addr} {n c : Nat} {l : List RawV} (h : VsV w (.slice (some a) n c) l) {m : Nat} (hm : m ≤ l.length) (c' : Nat) (hc : m ≤ c') : VsV w (.slice (some a) m c') (l.take m) := by
  obtain ⟨⟨rows, h1, h2⟩, _⟩ := h
  exact ⟨⟨rows.take m, h1.taken (by rw [h2.1]; exact hm) c', h2.take m⟩, .inr ⟨_, _, _, rfl, hc⟩⟩
theorem VsV.dropped {w : World} {a : Addr} {n c : Nat} {l : List RawV} (h : VsV w (.slice (some a) n c) l) {m : Nat} (hm : m ≤ l.length) (c' : Nat) (hc : n - m ≤ c') : VsV w (.slice (some (a.add (m * 4))) (n - m) c') (l.drop m) := by
  obtain ⟨⟨rows, h1, h2⟩, _⟩ := h
  exact ⟨⟨rows.drop m, h1.dropped (by rw [h2.1]; exact hm) c', h2.drop m⟩, .inr ⟨_, _, _, rfl, hc⟩⟩
theorem VsV.of_len {w : World} {v : Value} {l : List RawV} (h : VsV w v l) : ∃ rows : List (List Value), Sl w 4 v rows ∧ TellVs w rows l ∧ rows.length = l.length := by
  obtain ⟨⟨rows, h1, h2⟩, _⟩ := h
  exact ⟨rows, h1, h2, h2.1⟩
/-- nil, or it lies in memory -/
theorem VsV.cases {w : World} {p : Option Addr} {n c : Nat} {l : List RawV} (h : VsV w (.slice p n c) l) : (p = none ∧ n = 0 ∧ c = 0 ∧ l = []) ∨ ((∃ a, p = some a) ∧ n ≤ c) := by
  obtain ⟨p', c', e⟩ := h.isSlice
  rcases h.2 with e' | ⟨ad, n', c'', e', hc⟩
  · simp only [Value.slice.injEq] at e e'
    obtain ⟨rfl, rfl, rfl⟩ := e'
    exact .inl ⟨rfl, rfl, rfl, List.eq_nil_of_length_eq_zero e.2.1.symm⟩
  · cases e'
    exact .inr ⟨⟨_, rfl⟩, hc⟩
theorem tell_one {w : World} {rows : List (List Value)} {l : List RawV} (h : TellVs w rows l) : ∀ r ∈ rows, ∀ u ∈ r, u.oneCell' = true := fun r hr u hu => by
  obtain ⟨i, hi, rfl⟩ := List.getElem_of_mem hr
  obtain ⟨r', e1, vb, vn, vz, e, ⟨pb, cb, rfl⟩, ⟨pn, cn, rfl⟩, ⟨pz, cz, rfl⟩, _⟩ := h.2 i (by rw [← h.1]; exact hi)
  rw [List.getElem?_eq_getElem hi] at e1
  cases e1
  have e' := congrArg (fun v => match v with | Value.agg c => c.toList | _ => []) e
  simp at e'
  rw [e'] at hu
  simp [cellsV] at hu
  rcases hu with rfl | rfl | rfl | rfl <;> rfl
/-! ### replies -/
abbrev RepV := RepU RawV
/-- a reply's cells -/
def cellsR (e : Nat) (vi : Value) (id : Nat) (vb vn vz : Value) : List Value := [.int .i64 (e : Int), vi, .int .u32 (id : Int), vb, vn, vz]
/-- these cells tell the reply -/
def RepOkV (w : World) (r : List Value) (x : RepU RawV) : Prop :=
  ∃ vi q, r = .int .i64 (x.err : Int) :: vi :: q ∧ (∃ p c, vi = .slice p x.ids.length c) ∧ Sl w 1 vi (rowsU .u32 x.ids) ∧ VV w (.agg q.toArray) x.ver
theorem RepOkV.below {w w' : World} {r : List Value} {x : RepU RawV} (h : RepOkV w r x) (hb : Below w.heap.size w w') : RepOkV w' r x := by
  obtain ⟨vi, q, e, h1, h2, h3⟩ := h
  exact ⟨vi, q, e, h1, h2.below hb, h3.below hb⟩
theorem VV.len {w : World} {q : List Value} {a : RawV} (h : VV w (.agg q.toArray) a) : q.length = 4 := by
  obtain ⟨vb, vn, vz, e, _⟩ := h
  have := congrArg (fun v => match v with | Value.agg c => c.toList | _ => []) e
  simp at this
  rw [this]; rfl
theorem VV.row {w : World} {q : List Value} {a : RawV} (h : VV w (.agg q.toArray) a) : ∃ pb cb pn cn pz cz, q = cellsV a.id (.slice pb a.bl.length cb) (.slice pn a.ns.length cn) (.slice pz a.zs.length cz) := by
  obtain ⟨vb, vn, vz, e, ⟨pb, cb, rfl⟩, ⟨pn, cn, rfl⟩, ⟨pz, cz, rfl⟩, _⟩ := h
  have := congrArg (fun v => match v with | Value.agg c => c.toList | _ => []) e
  simp at this
  exact ⟨pb, cb, pn, cn, pz, cz, this⟩
theorem RepOkV.row {w : World} {r : List Value} {x : RepU RawV} (h : RepOkV w r x) : ∃ pi ci pb cb pn cn pz cz, r = cellsR x.err (.slice pi x.ids.length ci) x.ver.id (.slice pb x.ver.bl.length cb) (.slice pn x.ver.ns.length cn) (.slice pz x.ver.zs.length cz) := by
  obtain ⟨vi, q, rfl, ⟨pi, ci, rfl⟩, _, hv⟩ := h
  obtain ⟨pb, cb, pn, cn, pz, cz, rfl⟩ := hv.row
  exact ⟨pi, ci, pb, cb, pn, cn, pz, cz, rfl⟩
theorem RepOkV.len {w : World} {r : List Value} {x : RepU RawV} (h : RepOkV w r x) : r.length = 6 := by
  obtain ⟨_, _, _, _, _, _, _, _, rfl⟩ := h.row
  rfl
theorem rep_none (w : World) (e : Nat) : RepOkV w (cellsR e (.slice none 0 0) 0 (.slice none 0 0) (.slice none 0 0) (.slice none 0 0)) ⟨e, [], noV⟩ := ⟨_, _, rfl, ⟨_, _, rfl⟩, Sl.none 1, VV.none w⟩
/-! ### states -/
abbrev StV := StU RawV
/-- a state's cells: its versions' slice, its numbers, its replies' cells -/
def cellsS (vv : Value) (s0 s1 s2 : Nat) (r0 r1 r2 : List Value) : List Value := vv :: .int .u32 (s0 : Int) :: .int .u32 (s1 : Int) :: .int .u32 (s2 : Int) :: (r0 ++ r1 ++ r2)
/-- the value is this state -/
def StTold (w : World) (v : Value) (s : StU RawV) : Prop :=
  ∃ vv s0 s1 s2 r0 r1 r2 x0 x1 x2, v = .agg (cellsS vv s0 s1 s2 r0 r1 r2).toArray ∧ VsV w vv s.vers ∧ s.seqs = [s0, s1, s2] ∧ s.last = [x0, x1, x2] ∧ (s0 < 4294967296 ∧ s1 < 4294967296 ∧ s2 < 4294967296) ∧ RepOkV w r0 x0 ∧ RepOkV w r1 x1 ∧ RepOkV w r2 x2
theorem StTold.below {w w' : World} {v : Value} {s : StU RawV} (h : StTold w v s) (hb : Below w.heap.size w w') : StTold w' v s := by
  obtain ⟨vv, s0, s1, s2, r0, r1, r2, x0, x1, x2, e, h1, h2, h3, h4, h5, h6, h7⟩ := h
  exact ⟨vv, s0, s1, s2, r0, r1, r2, x0, x1, x2, e, h1.below hb, h2, h3, h4, h5.below hb, h6.below hb, h7.below hb⟩
/-! ### requests, ops -/
def cellsO (kind : Int) (id : Nat) (q : List Value) : List Value := .int .i64 kind :: .int .u32 (id : Int) :: q
def OpTold (w : World) (v : Value) (kind : Int) (id : Nat) (a : RawV) : Prop := ∃ q, v = .agg (cellsO kind id q).toArray ∧ VV w (.agg q.toArray) a
def cellsQ (client : Int) (seq : Nat) (q : List Value) : List Value := .int .i64 client :: .int .u32 (seq : Int) :: q
def ReqTold (w : World) (v : Value) (r : ReqU RawV) : Prop := ∃ q, v = .agg (cellsQ r.client r.seq (cellsO r.kind r.id q)).toArray ∧ VV w (.agg q.toArray) r.ver
theorem size_rep : (Try.prog.info? 32).map (·.size) = some 6 := by kernel_rfl
theorem size_op : (Try.prog.info? 38).map (·.size) = some 6 := by kernel_rfl
theorem size_req : (Try.prog.info? 40).map (·.size) = some 8 := by kernel_rfl
end Go.Proofs.Ytloogjdojojehaa
namespace Go.Proofs.Ytloogjdojojehaa
open Go.RowKit
set_option linter.unusedVariables false

/-! ### fewer cells -/
def Sub (w w' : World) : Prop := w.heap.size ≤ w'.heap.size ∧ ∀ a x, w.cell? a = some x → w'.cell? a = some x
theorem Sl.sub {w w' : World} {k : Nat} {v : Value} {rows : List (List Value)} (h : Sl w k v rows) (hb : Sub w w') : Sl w' k v rows := by
  obtain ⟨h1, p, cap, h2, h3⟩ := h
  refine ⟨h1, p, cap, h2, fun i r hr => ?_⟩
  obtain ⟨a, q1, q2, q3⟩ := h3 i r hr
  exact ⟨a, q1, Nat.lt_of_lt_of_le q2 hb.1, fun j x hx => hb.2 _ _ (q3 j x hx)⟩
theorem VV.sub {w w' : World} {v : Value} {a : RawV} (h : VV w v a) (hb : Sub w w') : VV w' v a := by
  obtain ⟨vb, vn, vz, e, q1, q2, q3, s1, s2, s3⟩ := h
  exact ⟨vb, vn, vz, e, q1, q2, q3, s1.sub hb, s2.sub hb, s3.sub hb⟩
theorem TellVs.sub {w w' : World} {rows : List (List Value)} {l : List RawV} (h : TellVs w rows l) (hb : Sub w w') : TellVs w' rows l := by
  refine ⟨h.1, fun i hi => ?_⟩
  obtain ⟨r, h1, h2⟩ := h.2 i hi
  exact ⟨r, h1, h2.sub hb⟩
theorem VsV.sub {w w' : World} {v : Value} {l : List RawV} (h : VsV w v l) (hb : Sub w w') : VsV w' v l := by
  obtain ⟨⟨rows, h1, h2⟩, h3⟩ := h
  exact ⟨⟨rows, h1.sub hb, h2.sub hb⟩, h3⟩
theorem RepOkV.sub {w w' : World} {r : List Value} {x : RepU RawV} (h : RepOkV w r x) (hb : Sub w w') : RepOkV w' r x := by
  obtain ⟨vi, q, e, h1, h2, h3⟩ := h
  exact ⟨vi, q, e, h1, h2.sub hb, h3.sub hb⟩
theorem StTold.sub {w w' : World} {v : Value} {s : StU RawV} (h : StTold w v s) (hb : Sub w w') : StTold w' v s := by
  obtain ⟨vv, s0, s1, s2, r0, r1, r2, x0, x1, x2, e, h1, h2, h3, h4, h5, h6, h7⟩ := h
  exact ⟨vv, s0, s1, s2, r0, r1, r2, x0, x1, x2, e, h1.sub hb, h2, h3, h4, h5.sub hb, h6.sub hb, h7.sub hb⟩
theorem OpTold.sub {w w' : World} {v : Value} {kind : Int} {id : Nat} {a : RawV} (h : OpTold w v kind id a) (hb : Sub w w') : OpTold w' v kind id a := by
  obtain ⟨q, e, h1⟩ := h
  exact ⟨q, e, h1.sub hb⟩
theorem ReqTold.sub {w w' : World} {v : Value} {r : ReqU RawV} (h : ReqTold w v r) (hb : Sub w w') : ReqTold w' v r := by
  obtain ⟨q, e, h1⟩ := h
  exact ⟨q, e, h1.sub hb⟩
/-! ### variables left out -/
end Go.Proofs.Ytloogjdojojehaa
namespace Go.Proofs.Ytloogjdojojehaa
open Go.RowKit
set_option linter.unusedVariables false

/-- where the first version of that number stands; -1: nowhere -/
def findV (l : List RawV) (id : Nat) : Int := match l.findIdx? (fun v => decide (v.id = id)) with | some i => (i : Int) | none => -1
theorem getV_at {l : List RawV} {j : Nat} (h : j < l.length) : l.getD j noV = l[j] := by rw [List.getD_eq_getElem?_getD, List.getElem?_eq_getElem h]; rfl
theorem findV_at {l : List RawV} {id j : Nat} (hj : j < l.length) (h : (l.getD j noV).id = id) (hn : ∀ k, k < j → (l.getD k noV).id ≠ id) : findV l id = (j : Int) := by
  have : l.findIdx? (fun v => decide (v.id = id)) = some j := by
    rw [List.findIdx?_eq_some_iff_getElem]
    refine ⟨hj, by rw [decide_eq_true_eq, ← getV_at hj]; exact h, fun k hk => ?_⟩
    have := hn k hk
    rw [getV_at (by omega)] at this
    simpa using this
  unfold findV
  rw [this]
theorem findV_none {l : List RawV} {id : Nat} (hn : ∀ k, k < l.length → (l.getD k noV).id ≠ id) : findV l id = -1 := by
  have : l.findIdx? (fun v => decide (v.id = id)) = none := by
    rw [List.findIdx?_eq_none_iff]
    intro x hx
    obtain ⟨k, hk, rfl⟩ := List.getElem_of_mem hx
    have := hn k hk
    rw [getV_at hk] at this
    simpa using this
  unfold findV
  rw [this]
theorem ids_snoc (l : List RawV) {j : Nat} (h : j < l.length) : (l.take (j + 1)).map (·.id) = (l.take j).map (·.id) ++ [(l.getD j noV).id] := by
  rw [List.take_succ_eq_append_getElem h, List.map_append, getV_at h]
  rfl
theorem rowsU_snoc (k : IntKind) (l : List Nat) (x : Nat) : rowsU k (l ++ [x]) = rowsU k l ++ [[.int k (x : Int)]] := by simp [rowsU]
theorem info_u32r : (Try.prog.info? 22).map (fun i => (i.zero, i.size, i.bytes)) = some (some (.int .u32 0), 1, 4) := by kernel_rfl
end Go.Proofs.Ytloogjdojojehaa
namespace Go.Proofs.Ytloogjdojojehaa
open Go.RowKit
set_option linter.unusedVariables false

def zRp : List Value := cellsR 0 (.slice none 0 0) 0 (.slice none 0 0) (.slice none 0 0) (.slice none 0 0)
def zS : List Value := cellsS (.slice none 0 0) 0 0 0 zRp zRp zRp
def eR (e : Nat) : List Value := cellsR e (.slice none 0 0) 0 (.slice none 0 0) (.slice none 0 0) (.slice none 0 0)
theorem eR_told (w : World) (e : Nat) : RepOkV w (eR e) ⟨e, [], noV⟩ := rep_none w e
theorem eR_one (e : Nat) : (eR e).toArray.all (·.oneCell') = true := by simp [eR, cellsR, Value.oneCell']
theorem alloc_rep (w : World) : (Instr.alloc 32 true (.tuple #[])).run Try.prog w = .ok (.pointer (some ⟨w.heap.size, 0, none⟩)) (w.alloc (.cells zRp.toArray 32)) := by kernel_rfl
theorem build_repE (e : Nat) (w : World) : (Instr.build 32 #[(0, .int .i64 (e : Int))]).run Try.prog w = .ok (.agg (eR e).toArray) w := by kernel_rfl
theorem build_rep0 (w : World) : (Instr.build 32 #[]).run Try.prog w = .ok (.agg zRp.toArray) w := by kernel_rfl
/-- a state's cells, one by one -/
theorem cellsS_one {w : World} {vv : Value} {s0 s1 s2 : Nat} {r0 r1 r2 : List Value} {x0 x1 x2 : RepU RawV} (hv : ∃ p n c, vv = .slice p n c) (h0 : RepOkV w r0 x0) (h1 : RepOkV w r1 x1) (h2 : RepOkV w r2 x2) :
    (cellsS vv s0 s1 s2 r0 r1 r2).toArray.all (·.oneCell') = true ∧ (cellsS vv s0 s1 s2 r0 r1 r2).length = 22 := by
  obtain ⟨p, n, c, rfl⟩ := hv
  obtain ⟨_, _, _, _, _, _, _, _, rfl⟩ := h0.row
  obtain ⟨_, _, _, _, _, _, _, _, rfl⟩ := h1.row
  obtain ⟨_, _, _, _, _, _, _, _, rfl⟩ := h2.row
  exact ⟨by simp [cellsS, cellsR, Value.oneCell'], rfl⟩
/-- what is known of a state that is an argument: its cells -/
theorem st_cells {w : World} {v : Value} {s : StU RawV} (h : StTold w v s) : ∃ (S : List Value) (p : Option Addr) (c : Nat), v = .agg S.toArray ∧ S.length = 22 ∧ S.toArray.all (·.oneCell') = true ∧ S[0]? = some (.slice p s.vers.length c) ∧ VsV w (.slice p s.vers.length c) s.vers := by
  obtain ⟨vv, s0, s1, s2, r0, r1, r2, x0, x1, x2, rfl, hV, _, _, _, h0, h1, h2⟩ := h
  obtain ⟨p, c, rfl⟩ := hV.isSlice
  have := cellsS_one (vv := .slice p s.vers.length c) (s0 := s0) (s1 := s1) (s2 := s2) ⟨_, _, _, rfl⟩ h0 h1 h2
  exact ⟨_, p, c, rfl, this.2, this.1, rfl, hV⟩
theorem op_cells {w : World} {v : Value} {kind : Int} {id : Nat} {a : RawV} (h : OpTold w v kind id a) : ∃ O : List Value, v = .agg O.toArray ∧ O.length = 6 ∧ O[0]? = some (.int .i64 kind) ∧ O[1]? = some (.int .u32 (id : Int)) ∧ O[2]? = some (.int .u32 (a.id : Int)) ∧ VV w (.agg (O.drop 2).toArray) a := by
  obtain ⟨q, rfl, hv⟩ := h
  obtain ⟨pb, cb, pn, cn, pz, cz, rfl⟩ := hv.row
  exact ⟨_, rfl, rfl, rfl, rfl, rfl, hv⟩
theorem Blk.cellOf {w : World} {b : Nat} {t : TypeId} {vs : List Value} (h : Blk w b t vs) {j : Nat} {x : Value} (hx : vs[j]? = some x) : w.cell? ⟨b, j, none⟩ = some x := by rw [h.cell, hx]
end Go.Proofs.Ytloogjdojojehaa
namespace Go.Proofs.Ytloogjdojojehaa
open Go.RowKit
set_option linter.unusedVariables false

/-- other versions in a state -/
theorem st_set {w w' : World} {S : List Value} {s : StU RawV} (h : StTold w (.agg S.toArray) s) (hb : Below w.heap.size w w') {v' : Value} {l' : List RawV} (hv : VsV w' v' l') :
    StTold w' (.agg (S.set 0 v').toArray) ⟨l', s.seqs, s.last⟩ ∧ (S.set 0 v').toArray.all (·.oneCell') = true ∧ (S.set 0 v').length = 22 := by
  obtain ⟨vv, s0, s1, s2, r0, r1, r2, x0, x1, x2, e, h1, h2, h3, h4, h5, h6, h7⟩ := h
  have e' : S = cellsS vv s0 s1 s2 r0 r1 r2 := by
    have := congrArg (fun v => match v with | Value.agg c => c.toList | _ => []) e
    simpa using this
  subst e'
  obtain ⟨p, c, rfl⟩ := hv.isSlice
  have h8 := cellsS_one (vv := .slice p l'.length c) (s0 := s0) (s1 := s1) (s2 := s2) ⟨_, _, _, rfl⟩ (h5.below hb) (h6.below hb) (h7.below hb)
  exact ⟨⟨_, s0, s1, s2, r0, r1, r2, x0, x1, x2, rfl, hv, h2, h3, h4, h5.below hb, h6.below hb, h7.below hb⟩, h8.1, h8.2⟩
theorem OwnR.nilOk {w : World} {base : Nat} {e : TypeId} {k : Nat} {v : Value} {rows : List (List Value)} (h : OwnR w base e k v rows) : NilOk v := by
  rcases h.2.2 with ⟨hv, hn⟩ | ⟨g, cap, cur, hv, _, _, hc, _⟩
  · exact .inl hv
  · exact .inr ⟨_, _, _, hv, hc⟩
theorem OwnR.vs {w : World} {base : Nat} {e : TypeId} {v : Value} {rows : List (List Value)} {l : List RawV} (h : OwnR w base e 4 v rows) (ht : TellVs w rows l) : VsV w v l := ⟨⟨rows, h.sl, ht⟩, h.nilOk⟩
theorem info_verV : (Try.prog.info? 30).map (fun i => (i.zero, i.size, i.bytes)) = some (some (.agg zV.toArray), 4, 80) := by kernel_rfl
end Go.Proofs.Ytloogjdojojehaa
namespace Go.Proofs.Ytloogjdojojehaa
open Go.RowKit
set_option linter.unusedVariables false

end Go.Proofs.Ytloogjdojojehaa
namespace Go.Proofs.Ytloogjdojojehaa
open Go.RowKit
set_option linter.unusedVariables false

end Go.Proofs.Ytloogjdojojehaa
namespace Go.Proofs.Ytloogjdojojehaa
open Go.RowKit
set_option linter.unusedVariables false

/-- a reply of numbers -/
def iR (vi : Value) : List Value := cellsR 0 vi 0 (.slice none 0 0) (.slice none 0 0) (.slice none 0 0)
theorem build_repI (p : Option Addr) (n c : Nat) (w : World) : (Instr.build 32 #[(1, .slice p n c)]).run Try.prog w = .ok (.agg (iR (.slice p n c)).toArray) w := by kernel_rfl
def liS (B base : Nat) (S : List Value) (vv : Value) (I : List Nat) (b : Bool) (i : Nat) (v : Value) (W : World) : Prop :=
  match i with
  | 0 => v = .agg S.toArray
  | 1 => v = .pointer (some ⟨B, 0, none⟩)
  | 2 => v = vv
  | 3 => OwnR W base 22 1 v (rowsU .u32 I)
  | 4 => ∃ vi, v = .agg (iR vi).toArray ∧ OwnR W base 22 1 vi (rowsU .u32 I)
  | _ => True
theorem liS_mono {B base : Nat} {S : List Value} {vv : Value} {I : List Nat} (b : Bool) (i : Nat) (v : Value) (W W' : World) (h : liS B base S vv I b i v W) (hb : Below W.heap.size W W') : liS B base S vv I b i v W' := by
  match i with
  | 0 => exact h
  | 1 => exact h
  | 2 => exact h
  | 3 => exact OwnR.keep h hb
  | 4 =>
    obtain ⟨vi, h1, h2⟩ := h
    exact ⟨vi, h1, h2.keep hb⟩
  | _ + 5 => trivial
theorem liS_turn {B base : Nat} {S : List Value} {vv : Value} {I : List Nat} (i : Nat) (v : Value) (W : World) (h : liS B base S vv I false i v W) (hlt : B + 2 < base) : liS B base S vv I true i v (W.setRow (B + 2) S.toArray) := by
  match i with
  | 0 => exact h
  | 1 => exact h
  | 2 => exact h
  | 3 => exact OwnR.rowApart h _ _ fun b e => by have := (OwnR.lt h b e).1; omega
  | 4 =>
    obtain ⟨vi, h1, h2⟩ := h
    exact ⟨vi, h1, h2.rowApart _ _ fun b e => by have := (h2.lt b e).1; omega⟩
  | _ + 5 => trivial
end Go.Proofs.Ytloogjdojojehaa
namespace Go.Proofs.Ytloogjdojojehaa
open Go.RowKit
set_option linter.unusedVariables false

/-- a reply of a version -/
def vR (r : List Value) : List Value := .int .i64 0 :: .slice none 0 0 :: r
theorem build_repV {r : List Value} (h : ∃ id pb nb cb pn n1 cn pz nz cz, r = cellsV id (.slice pb nb cb) (.slice pn n1 cn) (.slice pz nz cz)) (w : World) : (Instr.build 32 #[(2, .agg r.toArray)]).run Try.prog w = .ok (.agg (vR r).toArray) w := by
  obtain ⟨id, pb, nb, cb, pn, n1, cn, pz, nz, cz, rfl⟩ := h
  kernel_rfl
def geS (B k : Nat) (S r : List Value) (ad : Addr) (vv : Value) (i : Nat) (v : Value) : Prop :=
  match i with
  | 0 => v = .agg S.toArray
  | 1 => v = .pointer (some ⟨B, 0, none⟩)
  | 2 => v = vv
  | 3 => v = .int .i64 (k : Int)
  | 4 => v = .pointer (some (ad.add (k * 4)))
  | 5 => v = .agg r.toArray
  | 6 => v = .agg (vR r).toArray
  | _ => True
end Go.Proofs.Ytloogjdojojehaa
namespace Go.Proofs.Ytloogjdojojehaa
open Go.RowKit
set_option linter.unusedVariables false

end Go.Proofs.Ytloogjdojojehaa
namespace Go.Proofs.Ytloogjdojojehaa
open Go.RowKit
set_option linter.unusedVariables false

def mayR (a : RawV) : Bool := mayH a.bl.length a.ns a.zs
abbrev doR (l : List RawV) (kind : Int) (i : Nat) (a : RawV) : List RawV × RepU RawV := doU RawV.id mayR noV l kind i a
theorem idx_cases (l : List RawV) (id : Nat) : (l.findIdx? (fun v => decide (v.id = id)) = none ∧ hasU RawV.id l id = false ∧ l.find? (fun v => decide (v.id = id)) = none) ∨
    ∃ k, k < l.length ∧ l.findIdx? (fun v => decide (v.id = id)) = some k ∧ hasU RawV.id l id = true ∧ l.eraseP (fun v => decide (v.id = id)) = l.take k ++ l.drop (k + 1) ∧ l.find? (fun v => decide (v.id = id)) = some (l.getD k noV) := by
  induction l with
  | nil => exact .inl ⟨rfl, rfl, rfl⟩
  | cons x l ih =>
    by_cases hx : x.id = id
    · refine .inr ⟨0, by simp, by simp [List.findIdx?_cons, hx], by simp [hasU, hx], by simp [hx], by simp [hx]⟩
    · rcases ih with ⟨h1, h2, h3⟩ | ⟨k, hk, h1, h2, h3, h4⟩
      · refine .inl ⟨by simp [List.findIdx?_cons, hx, h1], ?_, by simp [hx, h3]⟩
        unfold hasU at h2 ⊢
        rw [List.any_cons, h2]
        simp [hx]
      · refine .inr ⟨k + 1, by simpa using hk, by simp [List.findIdx?_cons, hx, h1], ?_, ?_, ?_⟩
        · unfold hasU at h2 ⊢
          rw [List.any_cons, h2]
          simp
        · rw [List.eraseP_cons, h3]
          simp [hx]
        · rw [List.find?_cons, h4]
          simp [hx]
theorem findV_cases (l : List RawV) (id : Nat) : (findV l id = -1 ∧ hasU RawV.id l id = false ∧ l.find? (fun v => decide (v.id = id)) = none) ∨
    ∃ k, k < l.length ∧ findV l id = (k : Int) ∧ hasU RawV.id l id = true ∧ l.eraseP (fun v => decide (v.id = id)) = l.take k ++ l.drop (k + 1) ∧ l.find? (fun v => decide (v.id = id)) = some (l.getD k noV) := by
  rcases idx_cases l id with ⟨h1, h2⟩ | ⟨k, hk, h1, h2⟩
  · exact .inl ⟨by unfold findV; rw [h1], h2⟩
  · exact .inr ⟨k, hk, by unfold findV; rw [h1], h2⟩
end Go.Proofs.Ytloogjdojojehaa
