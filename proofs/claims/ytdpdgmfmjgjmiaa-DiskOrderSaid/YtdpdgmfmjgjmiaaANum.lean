/- Frames in sectors, by plain lists: what is found in an area (stage 14). -/
import Derived.Test.YtdpdgmfmjgjmiaaKA
namespace Go.Proofs.Ytdpdgmfmjgjmiaa
set_option linter.unusedVariables false

/-- how many sectors a frame of so many bytes takes -/
def secK (n : Nat) : Nat := (n + 6 + 31) / 32
theorem secK_pos (n : Nat) : 0 < secK n := by unfold secK; omega
/-- a frame, filled up to whole sectors -/
def padK (x : List Nat) : List Nat := frameK x ++ zerN (32 * secK x.length - (6 + x.length))
theorem pad_len (x : List Nat) : (padK x).length = 32 * secK x.length := by
  unfold padK
  rw [List.length_append, frame_len, zerN_len]
  unfold secK
  omega
theorem pad_bys {x : List Nat} (h : Bys x) : Bys (padK x) := (frame_bys h).app (Bys.of fun y hy => by
  unfold zerN at hy
  rw [List.eq_of_mem_replicate hy]
  decide)
/-- what is found in an area, and how many sectors it takes -/
def scanF : Nat → List Nat → List (List Nat) × Nat
  | 0, _ => ([], 0)
  | f + 1, s => if (firstK s).2.2 ≠ 0 then ([], 0) else ((firstK s).1 :: (scanF f (s.drop (32 * secK (firstK s).1.length))).1, secK (firstK s).1.length + (scanF f (s.drop (32 * secK (firstK s).1.length))).2)
def scanK (s : List Nat) : List (List Nat) × Nat := scanF (s.length + 1) s
theorem scanF_fuel : ∀ (f g : Nat) (s : List Nat), s.length < f → s.length < g → scanF f s = scanF g s
  | 0, _, s, h, _ => by omega
  | _, 0, s, _, h => by omega
  | f + 1, g + 1, s, hf, hg => by
    rw [scanF, scanF]
    split
    · rfl
    · rename_i h
      have h0 : (firstK s).2.2 = 0 := by simpa using h
      have hi := first_is (t := s) (x := (firstK s).1) (r := (firstK s).2.1) (by rw [← h0])
      have hp := secK_pos (firstK s).1.length
      rw [scanF_fuel f g (s.drop (32 * secK (firstK s).1.length)) (by rw [List.length_drop]; omega) (by rw [List.length_drop]; omega)]
theorem scan_stop {s : List Nat} (h : (firstK s).2.2 ≠ 0) : scanK s = ([], 0) := by unfold scanK; rw [scanF, if_pos h]
theorem scan_step {s x r : List Nat} (h : firstK s = (x, r, 0)) : scanK s = (x :: (scanK (s.drop (32 * secK x.length))).1, secK x.length + (scanK (s.drop (32 * secK x.length))).2) := by
  have hi := (first_is h).1
  have hp := secK_pos x.length
  unfold scanK
  rw [scanF, h]
  simp only [ne_eq, not_true_eq_false, if_false]
  rw [scanF_fuel s.length ((s.drop (32 * secK x.length)).length + 1) _ (by rw [List.length_drop]; omega) (by omega)]
/-- what is framed in sectors is found -/
theorem scan_pad {x : List Nat} (hx : Bys x) (hl : x.length ≤ 1024) (r : List Nat) : scanK (padK x ++ r) = (x :: (scanK r).1, secK x.length + (scanK r).2) := by
  have h : firstK (padK x ++ r) = (x, zerN (32 * secK x.length - (6 + x.length)) ++ r, 0) := by
    unfold padK
    rw [List.append_assoc]
    exact first_frame hx hl _
  rw [scan_step h]
  have e : (padK x ++ r).drop (32 * secK x.length) = r := by rw [← pad_len, List.drop_left]
  rw [e]
def areaK (l : List (List Nat)) : List Nat := l.flatMap padK
def usedK (l : List (List Nat)) : Nat := (l.map fun x => secK x.length).foldr (· + ·) 0
theorem area_len (l : List (List Nat)) : (areaK l).length = 32 * usedK l := by
  induction l with
  | nil => rfl
  | cons x l ih =>
    unfold areaK usedK at ih ⊢
    rw [List.flatMap_cons, List.length_append, pad_len, ih, List.map_cons, List.foldr_cons, Nat.mul_add]
theorem area_snoc (l : List (List Nat)) (x : List Nat) : areaK (l ++ [x]) = areaK l ++ padK x := by unfold areaK; rw [List.flatMap_append]; simp
theorem used_snoc (l : List (List Nat)) (x : List Nat) : usedK (l ++ [x]) = usedK l + secK x.length := by
  have h1 := area_len (l ++ [x])
  have h2 := area_len l
  rw [area_snoc, List.length_append, pad_len, h2] at h1
  omega
/-- all of them are found, up to what is no frame -/
theorem scan_area : ∀ (l : List (List Nat)) (r : List Nat), (∀ x ∈ l, Bys x ∧ x.length ≤ 1024) → (firstK r).2.2 ≠ 0 → scanK (areaK l ++ r) = (l, usedK l)
  | [], r, _, hr => scan_stop hr
  | x :: l, r, hl, hr => by
    have h0 := hl x (by simp)
    have ih := scan_area l r (fun y hy => hl y (by simp [hy])) hr
    have e : areaK (x :: l) ++ r = padK x ++ (areaK l ++ r) := by unfold areaK; rw [List.flatMap_cons, List.append_assoc]
    rw [e, scan_pad h0.1 h0.2, ih]
    rfl
/-- bytes 0 begin no frame, whatever stands behind -/
theorem first_blank (r : List Nat) : (firstK (zerN 32 ++ r)).2.2 ≠ 0 := by
  have e : zerN 32 ++ r = bigL 0 2 ++ ([0, 0, 0, 0] ++ ([] ++ (zerN 26 ++ r))) := by
    have : zerN 32 = bigL 0 2 ++ ([0, 0, 0, 0] ++ zerN 26) := by decide
    rw [this]
    simp
  rw [e, first_other (n := 0) (x := []) rfl (by decide) rfl (by decide +kernel)]
  decide
/-- a journal's area: what was appended, then a sector of bytes 0, if there is room, and whatever -/
theorem scan_journal {l : List (List Nat)} (hl : ∀ x ∈ l, Bys x ∧ x.length ≤ 1024) (r : List Nat) : scanK (areaK l ++ (zerN 32 ++ r)) = (l, usedK l) := scan_area l _ hl (first_blank r)
theorem scan_full {l : List (List Nat)} (hl : ∀ x ∈ l, Bys x ∧ x.length ≤ 1024) : scanK (areaK l) = (l, usedK l) := by
  have := scan_area l [] hl first_nil
  rwa [List.append_nil] at this
/-! ### sectors that may be torn (stage 13) -/
/-- what a crash leaves of a sector: what was there, what was written, in order, a byte that tells how much is kept -/
def tornS (old : List Nat) (l : List (List Nat)) (b : Nat) : List Nat :=
  let n := b / 4 % (l.length + 1)
  let was := if n = 0 then old else l.getD (n - 1) []
  if n < l.length then (l.getD n []).take (8 * (b % 4)) ++ was.drop (8 * (b % 4)) else was
theorem torn_none (old : List Nat) (b : Nat) : tornS old [] b = old := by
  have h : b / 4 % 1 = 0 := Nat.mod_one _
  simp [tornS, h]
theorem torn_len {old : List Nat} {l : List (List Nat)} {b : Nat} (h0 : old.length = 32) (hl : ∀ x ∈ l, x.length = 32) : (tornS old l b).length = 32 := by
  have hg : ∀ i, i < l.length → (l.getD i []).length = 32 := fun i hi => by
    rw [List.getD_eq_getElem?_getD, List.getElem?_eq_getElem hi]
    exact hl _ (List.getElem_mem _)
  have hn : b / 4 % (l.length + 1) < l.length + 1 := Nat.mod_lt _ (by omega)
  have hw : (if b / 4 % (l.length + 1) = 0 then old else l.getD (b / 4 % (l.length + 1) - 1) []).length = 32 := by
    split
    · exact h0
    · exact hg _ (by omega)
  unfold tornS
  simp only
  split
  · rename_i h
    have := hg _ h
    rw [List.length_append, List.length_take, List.length_drop, hw, this]
    omega
  · exact hw
end Go.Proofs.Ytdpdgmfmjgjmiaa
