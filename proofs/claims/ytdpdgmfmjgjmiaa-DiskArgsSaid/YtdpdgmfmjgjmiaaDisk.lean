/- A disk, by plain lists: sectors, what is pending, power, crashes (stage 13). -/
import Derived.Test.YtdpdgmfmjgjmiaaANum
namespace Go.Proofs.Ytdpdgmfmjgjmiaa
set_option linter.unusedVariables false

structure DiskM where
  sec : List (List Nat)
  pen : List (Nat × List Nat)
  cut : Bool
  rest : Int
/-- what is pending for a sector, in order -/
def penD (pen : List (Nat × List Nat)) (i : Nat) : List (List Nat) := pen.filterMap fun p => if p.1 = i then some p.2 else none
theorem pen_app (a b : List (Nat × List Nat)) (i : Nat) : penD (a ++ b) i = penD a i ++ penD b i := List.filterMap_append
theorem pen_same (i : Nat) (s : List Nat) : penD [(i, s)] i = [s] := by unfold penD; simp
theorem pen_other {i k : Nat} (s : List Nat) (h : k ≠ i) : penD [(k, s)] i = [] := by unfold penD; simp [h]
theorem pen_mem {pen : List (Nat × List Nat)} {i : Nat} {s : List Nat} (h : s ∈ penD pen i) : (i, s) ∈ pen := by
  unfold penD at h
  obtain ⟨p, hp, e⟩ := List.mem_filterMap.1 h
  split at e
  · rename_i hi
    cases e
    rw [← hi]
    exact hp
  · cases e
/-- the last one -/
def lastD (old : List Nat) (l : List (List Nat)) : List Nat := l.getLast?.getD old
theorem last_nil (old : List Nat) : lastD old [] = old := rfl
theorem last_snoc (old : List Nat) (l : List (List Nat)) (x : List Nat) : lastD old (l ++ [x]) = x := by unfold lastD; simp
theorem last_mem (old : List Nat) (l : List (List Nat)) : lastD old l = old ∨ lastD old l ∈ l := by
  unfold lastD
  cases h : l.getLast? with
  | none => exact .inl rfl
  | some x => exact .inr (List.mem_of_getLast? h)
def newD (n : Nat) : DiskM := ⟨List.replicate n (zerN 32), [], false, 0⟩
def offD (d : DiskM) : Bool := d.cut && decide (d.rest ≤ 0)
def readD (d : DiskM) (i : Nat) : List Nat := lastD (d.sec.getD i []) (penD d.pen i)
def writeD (d : DiskM) (i : Nat) (s : List Nat) : DiskM := { d with pen := d.pen ++ [(i, s)], rest := d.rest - 1 }
def syncD (d : DiskM) : DiskM := { d with sec := (List.range d.sec.length).map (fun i => readD d i), pen := [], rest := d.rest - 1 }
def cutD (d : DiskM) (after : Int) : DiskM := { d with cut := true, rest := max after 0 }
/-- the how many-th sector with pending writes -/
def turnD (d : DiskM) (i : Nat) : Nat := ((List.range i).filter fun k => decide (penD d.pen k ≠ [])).length
def keepD (keep : List Nat) (k : Nat) : Nat := if keep = [] then 0 else keep.getD (k % keep.length) 0
def crashS (d : DiskM) (keep : List Nat) (i : Nat) : List Nat := if penD d.pen i = [] then d.sec.getD i [] else tornS (d.sec.getD i []) (penD d.pen i) (keepD keep (turnD d i))
def crashD (d : DiskM) (keep : List Nat) : DiskM := ⟨(List.range d.sec.length).map (crashS d keep), [], false, 0⟩
theorem range_getD {f : Nat → List Nat} {n i : Nat} (h : i < n) : ((List.range n).map f).getD i [] = f i := by
  rw [List.getD_eq_getElem?_getD, List.getElem?_eq_getElem (by simpa using h)]
  simp
theorem turn_succ (d : DiskM) (i : Nat) : turnD d (i + 1) = turnD d i + (if penD d.pen i = [] then 0 else 1) := by
  unfold turnD
  rw [List.range_succ, List.filter_append, List.length_append]
  by_cases h : penD d.pen i = []
  · rw [if_pos h]
    simp [h]
  · rw [if_neg h]
    simp [h]
/-! ### what is read, what is safe -/
theorem read_new {n i : Nat} (h : i < n) : readD (newD n) i = zerN 32 := by
  unfold readD newD
  show lastD ((List.replicate n (zerN 32)).getD i []) [] = _
  rw [last_nil, List.getD_eq_getElem?_getD, List.getElem?_replicate, if_pos h]
  rfl
theorem read_same (d : DiskM) (i : Nat) (s : List Nat) : readD (writeD d i s) i = s := by
  unfold readD writeD
  rw [pen_app, pen_same, last_snoc]
theorem read_other (d : DiskM) {i k : Nat} (s : List Nat) (h : k ≠ i) : readD (writeD d k s) i = readD d i := by
  unfold readD writeD
  simp only
  rw [pen_app, pen_other s h, List.append_nil]
theorem safe_write (d : DiskM) (i : Nat) (s : List Nat) : (writeD d i s).sec = d.sec := rfl
theorem sync_len (d : DiskM) : (syncD d).sec.length = d.sec.length := by simp [syncD]
theorem crash_len (d : DiskM) (keep : List Nat) : (crashD d keep).sec.length = d.sec.length := by simp [crashD]
theorem sync_safe {d : DiskM} {i : Nat} (h : i < d.sec.length) : (syncD d).sec.getD i [] = readD d i := range_getD h
theorem sync_read {d : DiskM} {i : Nat} (h : i < d.sec.length) : readD (syncD d) i = readD d i := by
  show lastD ((syncD d).sec.getD i []) [] = _
  rw [last_nil, sync_safe h]
theorem crash_safe {d : DiskM} (keep : List Nat) {i : Nat} (h : i < d.sec.length) : (crashD d keep).sec.getD i [] = crashS d keep i := range_getD h
theorem crash_read {d : DiskM} (keep : List Nat) {i : Nat} (h : i < d.sec.length) : readD (crashD d keep) i = crashS d keep i := by
  show lastD ((crashD d keep).sec.getD i []) [] = _
  rw [last_nil, crash_safe keep h]
/-- what is not pending is never torn (DiskSafe) -/
theorem crash_still {d : DiskM} (keep : List Nat) {i : Nat} (h : i < d.sec.length) (hp : penD d.pen i = []) : readD (crashD d keep) i = d.sec.getD i [] := by
  rw [crash_read keep h]
  exact if_pos hp
/-- one that is pending (DiskTorn) -/
theorem torn_one (old new : List Nat) (b : Nat) : tornS old [new] b = if b / 4 % 2 = 1 then new else new.take (8 * (b % 4)) ++ old.drop (8 * (b % 4)) := by
  unfold tornS
  have : b / 4 % 2 = 0 ∨ b / 4 % 2 = 1 := by omega
  rcases this with h | h
  · simp [h]
  · simp [h]
/-- those in order (DiskOrder) -/
theorem torn_take (old : List Nat) (l : List (List Nat)) (b : Nat) (h : b / 4 % (l.length + 1) = l.length) : tornS old l b = lastD old l := by
  unfold tornS
  simp only
  rw [h, if_neg (Nat.lt_irrefl _)]
  unfold lastD
  rcases Nat.eq_zero_or_pos l.length with h0 | h0
  · rw [List.eq_nil_of_length_eq_zero h0]
    rfl
  · rw [if_neg (by omega), List.getLast?_eq_getElem?, List.getD_eq_getElem?_getD, List.getElem?_eq_getElem (by omega)]
    rfl
/-- a disk's sectors have 32 bytes -/
structure DiskOk (d : DiskM) : Prop where
  sec : ∀ s ∈ d.sec, s.length = 32
  pen : ∀ p ∈ d.pen, p.2.length = 32 ∧ p.1 < d.sec.length
theorem disk_new (n : Nat) : DiskOk (newD n) := ⟨fun s hs => by rw [List.eq_of_mem_replicate hs]; exact zerN_len _, fun p hp => (by cases hp)⟩
theorem getD_mem32 {d : DiskM} (h : DiskOk d) {i : Nat} (hi : i < d.sec.length) : (d.sec.getD i []).length = 32 := by
  rw [List.getD_eq_getElem?_getD, List.getElem?_eq_getElem hi]
  exact h.sec _ (List.getElem_mem _)
theorem read_len {d : DiskM} (h : DiskOk d) {i : Nat} (hi : i < d.sec.length) : (readD d i).length = 32 := by
  unfold readD
  rcases last_mem (d.sec.getD i []) (penD d.pen i) with e | e
  · rw [e]; exact getD_mem32 h hi
  · exact (h.pen _ (pen_mem e)).1
theorem disk_write {d : DiskM} (h : DiskOk d) {i : Nat} (hi : i < d.sec.length) {s : List Nat} (hs : s.length = 32) : DiskOk (writeD d i s) := ⟨h.sec, fun p hp => by
  rcases List.mem_append.1 hp with hp | hp
  · exact h.pen p hp
  · rw [List.mem_singleton.1 hp]; exact ⟨hs, hi⟩⟩
theorem disk_sync {d : DiskM} (h : DiskOk d) : DiskOk (syncD d) := ⟨fun s hs => by
  obtain ⟨i, hi, rfl⟩ := List.mem_map.1 hs
  exact read_len h (List.mem_range.1 hi), fun p hp => (by cases hp)⟩
theorem disk_crash {d : DiskM} (h : DiskOk d) (keep : List Nat) : DiskOk (crashD d keep) := ⟨fun s hs => by
  obtain ⟨i, hi, rfl⟩ := List.mem_map.1 hs
  have hi := List.mem_range.1 hi
  unfold crashS
  split
  · exact getD_mem32 h hi
  · exact torn_len (getD_mem32 h hi) fun x hx => (h.pen _ (pen_mem hx)).1, fun p hp => (by cases hp)⟩
/-- power: behind so many it is gone (DiskPower) -/
theorem off_cut (d : DiskM) (a : Int) : offD (cutD d a) = decide (a ≤ 0) := by
  unfold offD cutD
  simp only [Bool.true_and, decide_eq_decide]
  omega
theorem off_crash (d : DiskM) (keep : List Nat) : offD (crashD d keep) = false := rfl
theorem off_new (n : Nat) : offD (newD n) = false := rfl
end Go.Proofs.Ytdpdgmfmjgjmiaa
