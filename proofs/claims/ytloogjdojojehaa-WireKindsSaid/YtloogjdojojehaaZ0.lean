/- Frames in sectors, by plain lists: what is found in an area (stage 14). -/
import Derived.Test.YtloogjdojojehaaKA
import Derived.Test.YtloogjdojojehaaJ1
import Derived.Test.YtloogjdojojehaaG2
import Derived.Test.YtloogjdojojehaaG4
namespace Go.Proofs.Ytloogjdojojehaa
set_option linter.unusedVariables false

/-- how many sectors a frame of so many bytes takes -/
def secK (n : Nat) : Nat := (n + 6 + 31) / 32
theorem secK_pos (n : Nat) : 0 < secK n := by unfold secK; omega
/-- a frame, filled up to whole sectors -/
def padK (x : List Nat) : List Nat := frameK x ++ zerN (32 * secK x.length - (6 + x.length))
theorem pad_len (x : List Nat) : (padK x).length = 32 * secK x.length := by
  unfold padK
  rw [List.length_append, frame_len, zerN_len]
  unfold secK
  omega
theorem pad_bys {x : List Nat} (h : Bys x) : Bys (padK x) := (frame_bys h).app (Bys.of fun y hy => by
  unfold zerN at hy
  rw [List.eq_of_mem_replicate hy]
  decide)
/-- what is found in an area, and how many sectors it takes -/
def scanF : Nat → List Nat → List (List Nat) × Nat
  | 0, _ => ([], 0)
  | f + 1, s => if (firstK s).2.2 ≠ 0 then ([], 0) else ((firstK s).1 :: (scanF f (s.drop (32 * secK (firstK s).1.length))).1, secK (firstK s).1.length + (scanF f (s.drop (32 * secK (firstK s).1.length))).2)
def scanK (s : List Nat) : List (List Nat) × Nat := scanF (s.length + 1) s
theorem scanF_fuel : ∀ (f g : Nat) (s : List Nat), s.length < f → s.length < g → scanF f s = scanF g s
  | 0, _, s, h, _ => by omega
  | _, 0, s, _, h => by omega
  | f + 1, g + 1, s, hf, hg => by
    rw [scanF, scanF]
    split
    · rfl
    · rename_i h
      have h0 : (firstK s).2.2 = 0 := by simpa using h
      have hi := first_is (t := s) (x := (firstK s).1) (r := (firstK s).2.1) (by rw [← h0])
      have hp := secK_pos (firstK s).1.length
      rw [scanF_fuel f g (s.drop (32 * secK (firstK s).1.length)) (by rw [List.length_drop]; omega) (by rw [List.length_drop]; omega)]
theorem scan_stop {s : List Nat} (h : (firstK s).2.2 ≠ 0) : scanK s = ([], 0) := by unfold scanK; rw [scanF, if_pos h]
theorem scan_step {s x r : List Nat} (h : firstK s = (x, r, 0)) : scanK s = (x :: (scanK (s.drop (32 * secK x.length))).1, secK x.length + (scanK (s.drop (32 * secK x.length))).2) := by
  have hi := (first_is h).1
  have hp := secK_pos x.length
  unfold scanK
  rw [scanF, h]
  simp only [ne_eq, not_true_eq_false, if_false]
  rw [scanF_fuel s.length ((s.drop (32 * secK x.length)).length + 1) _ (by rw [List.length_drop]; omega) (by omega)]
/-- what is framed in sectors is found -/
theorem scan_pad {x : List Nat} (hx : Bys x) (hl : x.length ≤ 1024) (r : List Nat) : scanK (padK x ++ r) = (x :: (scanK r).1, secK x.length + (scanK r).2) := by
  have h : firstK (padK x ++ r) = (x, zerN (32 * secK x.length - (6 + x.length)) ++ r, 0) := by
    unfold padK
    rw [List.append_assoc]
    exact first_frame hx hl _
  rw [scan_step h]
  have e : (padK x ++ r).drop (32 * secK x.length) = r := by rw [← pad_len, List.drop_left]
  rw [e]
def areaK (l : List (List Nat)) : List Nat := l.flatMap padK
def usedK (l : List (List Nat)) : Nat := (l.map fun x => secK x.length).foldr (· + ·) 0
theorem area_len (l : List (List Nat)) : (areaK l).length = 32 * usedK l := by
  induction l with
  | nil => rfl
  | cons x l ih =>
    unfold areaK usedK at ih ⊢
    rw [List.flatMap_cons, List.length_append, pad_len, ih, List.map_cons, List.foldr_cons, Nat.mul_add]
theorem area_snoc (l : List (List Nat)) (x : List Nat) : areaK (l ++ [x]) = areaK l ++ padK x := by unfold areaK; rw [List.flatMap_append]; simp
theorem used_snoc (l : List (List Nat)) (x : List Nat) : usedK (l ++ [x]) = usedK l + secK x.length := by
  have h1 := area_len (l ++ [x])
  have h2 := area_len l
  rw [area_snoc, List.length_append, pad_len, h2] at h1
  omega
/-- all of them are found, up to what is no frame -/
theorem scan_area : ∀ (l : List (List Nat)) (r : List Nat), (∀ x ∈ l, Bys x ∧ x.length ≤ 1024) → (firstK r).2.2 ≠ 0 → scanK (areaK l ++ r) = (l, usedK l)
  | [], r, _, hr => scan_stop hr
  | x :: l, r, hl, hr => by
    have h0 := hl x (by simp)
    have ih := scan_area l r (fun y hy => hl y (by simp [hy])) hr
    have e : areaK (x :: l) ++ r = padK x ++ (areaK l ++ r) := by unfold areaK; rw [List.flatMap_cons, List.append_assoc]
    rw [e, scan_pad h0.1 h0.2, ih]
    rfl
/-- bytes 0 begin no frame, whatever stands behind -/
theorem first_blank (r : List Nat) : (firstK (zerN 32 ++ r)).2.2 ≠ 0 := by
  have e : zerN 32 ++ r = bigL 0 2 ++ ([0, 0, 0, 0] ++ ([] ++ (zerN 26 ++ r))) := by
    have : zerN 32 = bigL 0 2 ++ ([0, 0, 0, 0] ++ zerN 26) := by decide
    rw [this]
    simp
  rw [e, first_other (n := 0) (x := []) rfl (by decide) rfl (by decide +kernel)]
  decide
/-- a journal's area: what was appended, then a sector of bytes 0, if there is room, and whatever -/
theorem scan_journal {l : List (List Nat)} (hl : ∀ x ∈ l, Bys x ∧ x.length ≤ 1024) (r : List Nat) : scanK (areaK l ++ (zerN 32 ++ r)) = (l, usedK l) := scan_area l _ hl (first_blank r)
theorem scan_full {l : List (List Nat)} (hl : ∀ x ∈ l, Bys x ∧ x.length ≤ 1024) : scanK (areaK l) = (l, usedK l) := by
  have := scan_area l [] hl first_nil
  rwa [List.append_nil] at this
/-! ### sectors that may be torn (stage 13) -/
/-- what a crash leaves of a sector: what was there, what was written, in order, a byte that tells how much is kept -/
def tornS (old : List Nat) (l : List (List Nat)) (b : Nat) : List Nat :=
  let n := b / 4 % (l.length + 1)
  let was := if n = 0 then old else l.getD (n - 1) []
  if n < l.length then (l.getD n []).take (8 * (b % 4)) ++ was.drop (8 * (b % 4)) else was
theorem torn_none (old : List Nat) (b : Nat) : tornS old [] b = old := by
  have h : b / 4 % 1 = 0 := Nat.mod_one _
  simp [tornS, h]
theorem torn_len {old : List Nat} {l : List (List Nat)} {b : Nat} (h0 : old.length = 32) (hl : ∀ x ∈ l, x.length = 32) : (tornS old l b).length = 32 := by
  have hg : ∀ i, i < l.length → (l.getD i []).length = 32 := fun i hi => by
    rw [List.getD_eq_getElem?_getD, List.getElem?_eq_getElem hi]
    exact hl _ (List.getElem_mem _)
  have hn : b / 4 % (l.length + 1) < l.length + 1 := Nat.mod_lt _ (by omega)
  have hw : (if b / 4 % (l.length + 1) = 0 then old else l.getD (b / 4 % (l.length + 1) - 1) []).length = 32 := by
    split
    · exact h0
    · exact hg _ (by omega)
  unfold tornS
  simp only
  split
  · rename_i h
    have := hg _ h
    rw [List.length_append, List.length_take, List.length_drop, hw, this]
    omega
  · exact hw
end Go.Proofs.Ytloogjdojojehaa
namespace Go.Proofs.Ytloogjdojojehaa
set_option linter.unusedVariables false

structure DiskM where
  sec : List (List Nat)
  pen : List (Nat × List Nat)
  cut : Bool
  rest : Int
/-- what is pending for a sector, in order -/
def penD (pen : List (Nat × List Nat)) (i : Nat) : List (List Nat) := pen.filterMap fun p => if p.1 = i then some p.2 else none
theorem pen_app (a b : List (Nat × List Nat)) (i : Nat) : penD (a ++ b) i = penD a i ++ penD b i := List.filterMap_append
theorem pen_same (i : Nat) (s : List Nat) : penD [(i, s)] i = [s] := by unfold penD; simp
theorem pen_other {i k : Nat} (s : List Nat) (h : k ≠ i) : penD [(k, s)] i = [] := by unfold penD; simp [h]
theorem pen_mem {pen : List (Nat × List Nat)} {i : Nat} {s : List Nat} (h : s ∈ penD pen i) : (i, s) ∈ pen := by
  unfold penD at h
  obtain ⟨p, hp, e⟩ := List.mem_filterMap.1 h
  split at e
  · rename_i hi
    cases e
    rw [← hi]
    exact hp
  · cases e
/-- the last one -/
def lastD (old : List Nat) (l : List (List Nat)) : List Nat := l.getLast?.getD old
theorem last_nil (old : List Nat) : lastD old [] = old := rfl
theorem last_snoc (old : List Nat) (l : List (List Nat)) (x : List Nat) : lastD old (l ++ [x]) = x := by unfold lastD; simp
theorem last_mem (old : List Nat) (l : List (List Nat)) : lastD old l = old ∨ lastD old l ∈ l := by
  unfold lastD
  cases h : l.getLast? with
  | none => exact .inl rfl
  | some x => exact .inr (List.mem_of_getLast? h)
def newD (n : Nat) : DiskM := ⟨List.replicate n (zerN 32), [], false, 0⟩
def offD (d : DiskM) : Bool := d.cut && decide (d.rest ≤ 0)
def readD (d : DiskM) (i : Nat) : List Nat := lastD (d.sec.getD i []) (penD d.pen i)
def writeD (d : DiskM) (i : Nat) (s : List Nat) : DiskM := { d with pen := d.pen ++ [(i, s)], rest := d.rest - 1 }
def syncD (d : DiskM) : DiskM := { d with sec := (List.range d.sec.length).map (fun i => readD d i), pen := [], rest := d.rest - 1 }
def cutD (d : DiskM) (after : Int) : DiskM := { d with cut := true, rest := max after 0 }
/-- the how many-th sector with pending writes -/
def turnD (d : DiskM) (i : Nat) : Nat := ((List.range i).filter fun k => decide (penD d.pen k ≠ [])).length
def keepD (keep : List Nat) (k : Nat) : Nat := if keep = [] then 0 else keep.getD (k % keep.length) 0
def crashS (d : DiskM) (keep : List Nat) (i : Nat) : List Nat := if penD d.pen i = [] then d.sec.getD i [] else tornS (d.sec.getD i []) (penD d.pen i) (keepD keep (turnD d i))
def crashD (d : DiskM) (keep : List Nat) : DiskM := ⟨(List.range d.sec.length).map (crashS d keep), [], false, 0⟩
theorem range_getD {f : Nat → List Nat} {n i : Nat} (h : i < n) : ((List.range n).map f).getD i [] = f i := by
  rw [List.getD_eq_getElem?_getD, List.getElem?_eq_getElem (by simpa using h)]
  simp
theorem turn_succ (d : DiskM) (i : Nat) : turnD d (i + 1) = turnD d i + (if penD d.pen i = [] then 0 else 1) := by
  unfold turnD
  rw [List.range_succ, List.filter_append, List.length_append]
  by_cases h : penD d.pen i = []
  · rw [if_pos h]
    simp [h]
  · rw [if_neg h]
    simp [h]
/-! ### what is read, what is safe -/
theorem read_new {n i : Nat} (h : i < n) : readD (newD n) i = zerN 32 := by
  unfold readD newD
  show lastD ((List.replicate n (zerN 32)).getD i []) [] = _
  rw [last_nil, List.getD_eq_getElem?_getD, List.getElem?_replicate, if_pos h]
  rfl
theorem read_same (d : DiskM) (i : Nat) (s : List Nat) : readD (writeD d i s) i = s := by
  unfold readD writeD
  rw [pen_app, pen_same, last_snoc]
theorem read_other (d : DiskM) {i k : Nat} (s : List Nat) (h : k ≠ i) : readD (writeD d k s) i = readD d i := by
  unfold readD writeD
  simp only
  rw [pen_app, pen_other s h, List.append_nil]
theorem safe_write (d : DiskM) (i : Nat) (s : List Nat) : (writeD d i s).sec = d.sec := rfl
theorem sync_len (d : DiskM) : (syncD d).sec.length = d.sec.length := by simp [syncD]
theorem crash_len (d : DiskM) (keep : List Nat) : (crashD d keep).sec.length = d.sec.length := by simp [crashD]
theorem sync_safe {d : DiskM} {i : Nat} (h : i < d.sec.length) : (syncD d).sec.getD i [] = readD d i := range_getD h
theorem sync_read {d : DiskM} {i : Nat} (h : i < d.sec.length) : readD (syncD d) i = readD d i := by
  show lastD ((syncD d).sec.getD i []) [] = _
  rw [last_nil, sync_safe h]
theorem crash_safe {d : DiskM} (keep : List Nat) {i : Nat} (h : i < d.sec.length) : (crashD d keep).sec.getD i [] = crashS d keep i := range_getD h
theorem crash_read {d : DiskM} (keep : List Nat) {i : Nat} (h : i < d.sec.length) : readD (crashD d keep) i = crashS d keep i := by
  show lastD ((crashD d keep).sec.getD i []) [] = _
  rw [last_nil, crash_safe keep h]
/-- what is not pending is never torn (DiskSafe) -/
theorem crash_still {d : DiskM} (keep : List Nat) {i : Nat} (h : i < d.sec.length) (hp : penD d.pen i = []) : readD (crashD d keep) i = d.sec.getD i [] := by
  rw [crash_read keep h]
  exact if_pos hp
/-- one that is pending (DiskTorn) -/
theorem torn_one (old new : List Nat) (b : Nat) : tornS old [new] b = if b / 4 % 2 = 1 then new else new.take (8 * (b % 4)) ++ old.drop (8 * (b % 4)) := by
  unfold tornS
  have : b / 4 % 2 = 0 ∨ b / 4 % 2 = 1 := by omega
  rcases this with h | h
  · simp [h]
  · simp [h]
/-- those in order (DiskOrder) -/
theorem torn_take (old : List Nat) (l : List (List Nat)) (b : Nat) (h : b / 4 % (l.length + 1) = l.length) : tornS old l b = lastD old l := by
  unfold tornS
  simp only
  rw [h, if_neg (Nat.lt_irrefl _)]
  unfold lastD
  rcases Nat.eq_zero_or_pos l.length with h0 | h0
  · rw [List.eq_nil_of_length_eq_zero h0]
    rfl
  · rw [if_neg (by omega), List.getLast?_eq_getElem?, List.getD_eq_getElem?_getD, List.getElem?_eq_getElem (by omega)]
    rfl
/-- a disk's sectors have 32 bytes -/
structure DiskOk (d : DiskM) : Prop where
  sec : ∀ s ∈ d.sec, s.length = 32
  pen : ∀ p ∈ d.pen, p.2.length = 32 ∧ p.1 < d.sec.length
theorem disk_new (n : Nat) : DiskOk (newD n) := ⟨fun s hs => by rw [List.eq_of_mem_replicate hs]; exact zerN_len _, fun p hp => (by cases hp)⟩
theorem getD_mem32 {d : DiskM} (h : DiskOk d) {i : Nat} (hi : i < d.sec.length) : (d.sec.getD i []).length = 32 := by
  rw [List.getD_eq_getElem?_getD, List.getElem?_eq_getElem hi]
  exact h.sec _ (List.getElem_mem _)
theorem read_len {d : DiskM} (h : DiskOk d) {i : Nat} (hi : i < d.sec.length) : (readD d i).length = 32 := by
  unfold readD
  rcases last_mem (d.sec.getD i []) (penD d.pen i) with e | e
  · rw [e]; exact getD_mem32 h hi
  · exact (h.pen _ (pen_mem e)).1
theorem disk_write {d : DiskM} (h : DiskOk d) {i : Nat} (hi : i < d.sec.length) {s : List Nat} (hs : s.length = 32) : DiskOk (writeD d i s) := ⟨h.sec, fun p hp => by
  rcases List.mem_append.1 hp with hp | hp
  · exact h.pen p hp
  · rw [List.mem_singleton.1 hp]; exact ⟨hs, hi⟩⟩
theorem disk_sync {d : DiskM} (h : DiskOk d) : DiskOk (syncD d) := ⟨fun s hs => by
  obtain ⟨i, hi, rfl⟩ := List.mem_map.1 hs
  exact read_len h (List.mem_range.1 hi), fun p hp => (by cases hp)⟩
theorem disk_crash {d : DiskM} (h : DiskOk d) (keep : List Nat) : DiskOk (crashD d keep) := ⟨fun s hs => by
  obtain ⟨i, hi, rfl⟩ := List.mem_map.1 hs
  have hi := List.mem_range.1 hi
  unfold crashS
  split
  · exact getD_mem32 h hi
  · exact torn_len (getD_mem32 h hi) fun x hx => (h.pen _ (pen_mem hx)).1, fun p hp => (by cases hp)⟩
/-- power: behind so many it is gone (DiskPower) -/
theorem off_cut (d : DiskM) (a : Int) : offD (cutD d a) = decide (a ≤ 0) := by
  unfold offD cutD
  simp only [Bool.true_and, decide_eq_decide]
  omega
theorem off_crash (d : DiskM) (keep : List Nat) : offD (crashD d keep) = false := rfl
theorem off_new (n : Nat) : offD (newD n) = false := rfl
end Go.Proofs.Ytloogjdojojehaa
namespace Go.Proofs.Ytloogjdojojehaa
open Go.ChangeShapes Go.WideShapes Go.ChangeAt Go.RowKit
set_option linter.unusedVariables false

/-- numbers of a kind as rows -/
def rowsU (k : IntKind) (l : List Nat) : List (List Value) := l.map fun (n : Nat) => [.int k (n : Int)]
theorem rowsU_len (k : IntKind) (l : List Nat) : (rowsU k l).length = l.length := by simp [rowsU]
theorem rowsU_at {k : IntKind} {l : List Nat} {j : Nat} (h : j < l.length) : (rowsU k l)[j]? = some [.int k ((l.getD j 0 : Nat) : Int)] := by simp [rowsU, h]
theorem SlU.cell {w : World} {p : Option Addr} {n cap : Nat} {k : IntKind} {l : List Nat} (h : Sl w 1 (.slice p n cap) (rowsU k l)) {j : Nat} (hj : j < l.length) : ∃ a : Addr, p = some a ∧ w.cell? (a.add j) = some (.int k ((l.getD j 0 : Nat) : Int)) := by
  obtain ⟨a, e, hc⟩ := h.row (rowsU_at hj)
  exact ⟨a, e, by have := hc 0 _ rfl; rw [Nat.mul_one] at this; exact this⟩
theorem nat_nums {k : IntKind} {b : Nat} (hk : ∀ q : Int, (Lit.int k q).wf = true → 0 ≤ q ∧ q < (b : Int)) : ∀ (l : List Int), (∀ q ∈ l, (Lit.int k q).wf = true) → ∃ m : List Nat, m.length = l.length ∧ (l.map fun q => [Value.int k q]) = rowsU k m ∧ ∀ q ∈ m, q < b
  | [], _ => ⟨[], rfl, rfl, fun q h => by cases h⟩
  | q :: l, h => by
    obtain ⟨m, h1, h2, h3⟩ := nat_nums hk l (fun q hq => h q (by simp [hq]))
    obtain ⟨h4, h5⟩ := hk q (h q (by simp))
    obtain ⟨n, rfl⟩ : ∃ n : Nat, q = (n : Int) := ⟨q.toNat, by omega⟩
    refine ⟨n :: m, by simp [h1], ?_, fun r hr => ?_⟩
    · rw [List.map_cons, h2]; rfl
    · rcases List.mem_cons.1 hr with rfl | hr
      · omega
      · exact h3 r hr
theorem wf_u16 (q : Int) (h : (Lit.int .u16 q).wf = true) : 0 ≤ q ∧ q < ((65536 : Nat) : Int) := by
  have : (IntKind.u16.min ≤ q) ∧ (q ≤ IntKind.u16.max) := by simpa [Lit.wf] using h
  have e1 : IntKind.u16.min = 0 := by decide
  have e2 : IntKind.u16.max = 65535 := by decide
  omega
theorem wf_u8 (q : Int) (h : (Lit.int .u8 q).wf = true) : 0 ≤ q ∧ q < ((256 : Nat) : Int) := by
  have : (IntKind.u8.min ≤ q) ∧ (q ≤ IntKind.u8.max) := by simpa [Lit.wf] using h
  have e1 : IntKind.u8.min = 0 := by decide
  have e2 : IntKind.u8.max = 255 := by decide
  omega
section
variable {H : Type} {enc : TypeId × Value → H} {w : World} {base : Nat} {spare : Nat → Bool} {held : Bool}
theorem open_u8s {p0 : Option Addr} {len cap : Nat} {d : DataW H} {p : List MemPlace} (h : DataW.Trod enc Try.prog w base spare held 60 (.slice p0 len cap) d p) :
    ∃ l : List Nat, l.length = len ∧ Sl w 1 (.slice p0 len cap) (rowsU .u8 l) ∧ ∀ q ∈ l, q < 256 := by
  obtain ⟨l, h1, h2, h3, h4⟩ := open_nums Try.underlying60 Try.underlying5 (by kernel_rfl) h
  obtain ⟨m, q1, q2, q3⟩ := nat_nums wf_u8 l h3
  exact ⟨m, q1.trans h1, by rw [← q2]; exact h2, q3⟩
end
end Go.Proofs.Ytloogjdojojehaa
namespace Go.Proofs.Ytloogjdojojehaa
open Go.RowKit
set_option linter.unusedVariables false

def inD (d : DiskM) (i : Int) : Prop := 0 ≤ i ∧ i < (d.sec.length : Int)
instance (d : DiskM) (i : Int) : Decidable (inD d i) := by unfold inD; exact inferInstance
def rdE (d : DiskM) (i : Int) : List Nat × Nat := if offD d then ([], 130) else if inD d i then (readD d i.toNat, 0) else ([], 131)
def wrE (d : DiskM) (i : Int) (n : Nat) : Nat := if ¬ inD d i then 131 else if n ≠ 32 then 1 else if offD d then 130 else 0
def wrD (d : DiskM) (i : Int) (s : List Nat) : DiskM := if wrE d i s.length = 0 then writeD d i.toNat s else d
def syE (d : DiskM) : Nat := if offD d then 130 else 0
def syD (d : DiskM) : DiskM := if offD d then d else syncD d
def sfD (d : DiskM) (i : Int) : List Nat := if inD d i then d.sec.getD i.toNat [] else []
/-- a pointer to a disk -/
def ptD (D : Nat) : Value := .pointer (some ⟨D, 0, none⟩)
/-- how many may be: of sectors, of what is pending, of power -/
structure DkB (d : DiskM) : Prop where
  ok : DiskOk d
  sec : d.sec.length ≤ 4096
  pen : d.pen.length ≤ 100000
  rest : -1000000 ≤ d.rest
  bys : (∀ s ∈ d.sec, Bys s) ∧ ∀ p ∈ d.pen, Bys p.2
/-! ### full -/
def fullT (s : ByteArray) : ByteArray := tx ((sl s ++ zerN 32).take 32)
theorem full_sl (s : ByteArray) : sl (fullT s) = (sl s ++ zerN 32).take 32 := sl_tx (((sl_bys s).app (Bys.of fun x hx => by rw [List.eq_of_mem_replicate hx]; decide)).take 32)
theorem full_len (s : ByteArray) : (sl (fullT s)).length = 32 := by
  rw [full_sl, List.length_take, List.length_append, zerN_len]
  omega
theorem full_size (s : ByteArray) : (fullT s).size = 32 := by rw [← sl_len]; exact full_len s
/-- a text of some bytes, held against none -/
theorem emp_no {t : ByteArray} (h : t.size ≠ 0) : t.toList.isEmpty = false := by
  rw [Go.ByteArray.toList_eq, List.isEmpty_eq_false_iff]
  intro e
  have : t.data.toList.length = 0 := by rw [e]; rfl
  exact h (by simpa using this)
/-- behind k acts -/
structure DkN (d : DiskM) (k : Nat) : Prop where
  ok : DiskOk d
  sec : d.sec.length ≤ 4096
  pen : d.pen.length ≤ k
  rest : -(k : Int) ≤ d.rest
  bys : (∀ s ∈ d.sec, Bys s) ∧ ∀ p ∈ d.pen, Bys p.2
theorem DkN.b {d : DiskM} {k : Nat} (h : DkN d k) (hk : k ≤ 100000) : DkB d := ⟨h.ok, h.sec, by have := h.pen; omega, by have := h.rest; omega, h.bys⟩
theorem DkN.more {d : DiskM} {k k' : Nat} (h : DkN d k) (hk : k ≤ k') : DkN d k' := ⟨h.ok, h.sec, by have := h.pen; omega, by have := h.rest; omega, h.bys⟩
theorem zer_bys (n : Nat) : Bys (zerN n) := Bys.of fun x hx => by rw [List.eq_of_mem_replicate hx]; decide
theorem dkn_new {n : Nat} (h : n ≤ 4096) : DkN (newD n) 0 := ⟨disk_new n, by simpa [newD] using h, Nat.le_refl _, by simp [newD], fun s hs => by rw [List.eq_of_mem_replicate hs]; exact zer_bys 32, fun p hp => by cases hp⟩
theorem getD_secB {d : DiskM} (h : ∀ s ∈ d.sec, Bys s) (i : Nat) : Bys (d.sec.getD i []) := by
  rw [List.getD_eq_getElem?_getD]
  cases hi : d.sec[i]? with
  | none => exact Bys.of fun x hx => by cases hx
  | some x => exact h x (List.mem_of_getElem? hi)
theorem read_bys {d : DiskM} (h : (∀ s ∈ d.sec, Bys s) ∧ ∀ p ∈ d.pen, Bys p.2) (i : Nat) : Bys (readD d i) := by
  unfold readD
  rcases last_mem (d.sec.getD i []) (penD d.pen i) with e | e
  · rw [e]; exact getD_secB h.1 i
  · exact h.2 _ (pen_mem e)
theorem torn_bys {old : List Nat} {l : List (List Nat)} {b : Nat} (h0 : Bys old) (hl : ∀ x ∈ l, Bys x) : Bys (tornS old l b) := by
  have hg : ∀ i, Bys (l.getD i []) := fun i => by
    rw [List.getD_eq_getElem?_getD]
    cases hi : l[i]? with
    | none => exact Bys.of fun x hx => by cases hx
    | some x => exact hl x (List.mem_of_getElem? hi)
  unfold tornS
  simp only
  have hw : Bys (if b / 4 % (l.length + 1) = 0 then old else l.getD (b / 4 % (l.length + 1) - 1) []) := by
    split
    · exact h0
    · exact hg _
  split
  · exact ((hg _).take _).app (hw.drop _)
  · exact hw
theorem dkn_write {d : DiskM} {k : Nat} (h : DkN d k) (i : Int) {s : List Nat} (hs : Bys s) : DkN (wrD d i s) (k + 1) := by
  unfold wrD
  split
  · rename_i he
    unfold wrE at he
    by_cases hi : inD d i
    · by_cases h32 : s.length = 32
      · have hlt : i.toNat < d.sec.length := by unfold inD at hi; omega
        refine ⟨disk_write h.ok hlt h32, h.sec, ?_, ?_, h.bys.1, fun p hp => ?_⟩
        · show (d.pen ++ [(i.toNat, s)]).length ≤ k + 1
          rw [List.length_append]; have := h.pen; simp; omega
        · show -((k + 1 : Nat) : Int) ≤ d.rest - 1
          have := h.rest; omega
        · rcases List.mem_append.1 hp with hp | hp
          · exact h.bys.2 p hp
          · rw [List.mem_singleton.1 hp]; exact hs
      · simp [hi, h32] at he
    · simp [hi] at he
  · exact h.more (by omega)
theorem dkn_sync {d : DiskM} {k : Nat} (h : DkN d k) : DkN (syD d) (k + 1) := by
  unfold syD
  split
  · exact h.more (by omega)
  · refine ⟨disk_sync h.ok, by rw [sync_len]; exact h.sec, Nat.zero_le _, by show -((k + 1 : Nat) : Int) ≤ d.rest - 1; have := h.rest; omega, fun s hs => ?_, fun p hp => by cases hp⟩
    obtain ⟨i, _, rfl⟩ := List.mem_map.1 hs
    exact read_bys h.bys i
theorem dkn_cut {d : DiskM} {k : Nat} (h : DkN d k) (a : Int) : DkN (cutD d a) k := ⟨⟨h.ok.sec, h.ok.pen⟩, h.sec, h.pen, by show -(k : Int) ≤ max a 0; omega, h.bys⟩
theorem dkn_crash {d : DiskM} {k : Nat} (h : DkN d k) (keep : List Nat) : DkN (crashD d keep) k := by
  refine ⟨disk_crash h.ok keep, by rw [crash_len]; exact h.sec, Nat.zero_le _, by show -(k : Int) ≤ 0; omega, fun s hs => ?_, fun p hp => by cases hp⟩
  obtain ⟨i, _, rfl⟩ := List.mem_map.1 hs
  unfold crashS
  split
  · exact getD_secB h.bys.1 i
  · exact torn_bys (getD_secB h.bys.1 i) fun x hx => h.bys.2 _ (pen_mem hx)
/-! ### sizes that stay -/
theorem wr_len (d : DiskM) (i : Int) (s : List Nat) : (wrD d i s).sec.length = d.sec.length := by unfold wrD; split <;> rfl
theorem sy_len (d : DiskM) : (syD d).sec.length = d.sec.length := by unfold syD; split; rfl; exact sync_len d
/-! ### while the power is on -/
theorem wr_on {d : DiskM} {i : Nat} {s : List Nat} (hi : i < d.sec.length) (hs : s.length = 32) (ho : offD d = false) : wrE d (i : Int) s.length = 0 ∧ wrD d (i : Int) s = writeD d i s := by
  have h1 : inD d (i : Int) := by unfold inD; omega
  have h2 : wrE d (i : Int) s.length = 0 := by unfold wrE; rw [if_neg (by simpa using h1), if_neg (by simpa using hs), ho]; rfl
  refine ⟨h2, ?_⟩
  unfold wrD
  rw [if_pos h2, Int.toNat_natCast]
theorem sy_on {d : DiskM} (ho : offD d = false) : syE d = 0 ∧ syD d = syncD d := by unfold syE syD; rw [ho]; exact ⟨rfl, rfl⟩
theorem rd_on {d : DiskM} {i : Nat} (hi : i < d.sec.length) (ho : offD d = false) : rdE d (i : Int) = (readD d i, 0) := by
  have h1 : inD d (i : Int) := by unfold inD; omega
  unfold rdE
  rw [ho, if_neg (by decide), if_pos h1, Int.toNat_natCast]
theorem sf_in {d : DiskM} {i : Nat} (hi : i < d.sec.length) : sfD d (i : Int) = d.sec.getD i [] := by
  have h1 : inD d (i : Int) := by unfold inD; omega
  unfold sfD
  rw [if_pos h1, Int.toNat_natCast]
theorem off_write {d : DiskM} (h : d.cut = false) (i : Nat) (s : List Nat) : offD (writeD d i s) = false := by unfold offD writeD; simp [h]
theorem off_sync {d : DiskM} (h : d.cut = false) : offD (syncD d) = false := by unfold offD syncD; simp [h]
theorem wf_small (i : Nat) (h : i ≤ 100000) : (Lit.int .i64 (i : Int)).wf = true := by
  have e1 : IntKind.i64.min = -9223372036854775808 := by decide
  have e2 : IntKind.i64.max = 9223372036854775807 := by decide
  simp only [Lit.wf, e1, e2, Bool.and_eq_true, decide_eq_true_eq]
  omega
end Go.Proofs.Ytloogjdojojehaa
namespace Go.Proofs.Ytloogjdojojehaa
open Go.RowKit
set_option linter.unusedVariables false

/-- what a call turned: nothing but what belongs to the disk and its journals -/
structure Turn (base : Nat) (w w' : World) (F F' : Nat → Prop) : Prop where
  b : Below base w w'
  out : ∀ i, i < w.heap.size → ¬ F i → w'.heap[i]? = w.heap[i]?
  new : ∀ i, F' i → F i ∨ w.heap.size ≤ i
/-- an own slice that is no part of the disk and its journals -/
def Apart (F : Nat → Prop) (v : Value) : Prop := ∀ b, v.ownBlock = some b → ¬ F b
theorem Turn.own {base B : Nat} {w w' : World} {F F' : Nat → Prop} (t : Turn base w w' F F') {e : TypeId} {k : Nat} {v : Value} {rows : List (List Value)} (h : OwnR w B e k v rows) (ha : Apart F v) : OwnR w' B e k v rows ∧ Apart F' v := by
  have hlt := h.lt
  refine ⟨?_, fun b hb hf => ?_⟩
  · obtain ⟨h0, h1, h2⟩ := h
    refine ⟨h0, h1, ?_⟩
    rcases h2 with h2 | ⟨g, cap, cur, hv, hg, hh, r⟩
    · exact .inl h2
    · refine .inr ⟨g, cap, cur, hv, hg, ?_, r⟩
      have hb : v.ownBlock = some g := by rw [hv]; rfl
      rw [t.out g (hlt g hb).2 (ha g hb)]; exact hh
  · rcases t.new b hf with h1 | h1
    · exact ha b hb h1
    · have := (hlt b hb).2; omega
theorem Turn.refl (base : Nat) (w : World) (F : Nat → Prop) : Turn base w w F F := ⟨Below.refl _ _, fun _ _ _ => rfl, fun _ h => .inl h⟩
theorem Turn.trans {base : Nat} {a b c : World} {F G H : Nat → Prop} (h : Turn base a b F G) (k : Turn base b c G H) : Turn base a c F H := by
  have hz := h.b.size
  refine ⟨h.b.trans k.b, fun i hi hF => ?_, fun i hi => ?_⟩
  · rw [k.out i (by omega) (fun hg => (h.new i hg).elim hF (fun h1 => by omega))]
    exact h.out i hi hF
  · rcases k.new i hi with h1 | h1
    · exact h.new i h1
    · exact .inr (by omega)
/-- new memory alone -/
theorem Turn.of_below {base : Nat} {w w' : World} {F : Nat → Prop} (hb : Below w.heap.size w w') (hw : base ≤ w.heap.size) : Turn base w w' F F := ⟨hb.mono hw, fun i hi _ => hb.block i hi, fun _ h => .inl h⟩
/-- one block of the thing's own is written, and new ones are made -/
theorem Turn.of_grown {base : Nat} {w w' : World} {F : Nat → Prop} {o : Option Nat} (hg : w.grownBy w' o) (hw : base ≤ w.heap.size) (ho : ∀ b, o = some b → F b ∧ base ≤ b) : Turn base w w' F F :=
  ⟨⟨hg.os, hg.tape, hg.output, hg.size, fun i hi => hg.block i (by omega) (fun e => by have := (ho i e.symm).2; omega)⟩, fun i hi hF => hg.block i hi (fun e => hF (ho i e.symm).1), fun _ h => .inl h⟩
theorem Turn.blk {base : Nat} {w w' : World} {F F' : Nat → Prop} (t : Turn base w w' F F') {b : Nat} {ty : TypeId} {vs : List Value} (h : Blk w b ty vs) (hb : ¬ F b) : Blk w' b ty vs := (t.out b h.lt hb).trans h
theorem Turn.sub {base : Nat} {w w' : World} {F F' G G' : Nat → Prop} (t : Turn base w w' F F') (hF : ∀ i, F i → G i) (hG : ∀ i, G' i → F' i ∨ G i) : Turn base w w' G G' :=
  ⟨t.b, fun i hi h => t.out i hi (fun hf => h (hF i hf)), fun i hi => (hG i hi).elim (fun h => (t.new i h).imp (hF i) id) .inl⟩
end Go.Proofs.Ytloogjdojojehaa
