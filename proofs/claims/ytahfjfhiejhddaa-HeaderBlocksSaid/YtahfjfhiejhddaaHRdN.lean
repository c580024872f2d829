/- Reading a version, step by step, with what was read so far: plain facts. -/
import Derived.Test.YtahfjfhiejhddaaHREn
namespace Go.Proofs.Ytahfjfhiejhddaa
set_option linter.unusedVariables false

/-- what a reading tells: the version, the bytes behind it, the error -/
abbrev TellV := RawV × List Nat × Nat
def errV (e : Nat) : TellV := (noV, [], e)
/-- the files, k of them to come -/
def tellD (i : Nat) (bl : List (List Nat)) (ns : List (List Nat)) (zs : List Int) : Nat → List Nat → TellV
  | 0, s => if mayH bl.length ns zs then (⟨i, bl, ns, zs⟩, s, 0) else errV 1
  | k + 1, s =>
    if (readL s).2.2 ≠ 0 then errV (readL s).2.2
    else if (getL (readL s).2.1).2.2 ≠ 0 then errV (getL (readL s).2.1).2.2
    else if 300 < (getL (readL s).2.1).1 then errV 111
    else tellD i bl (ns ++ [(readL s).1]) (zs ++ [((getL (readL s).2.1).1 : Int)]) k ((readL s).2.1.drop (getL (readL s).2.1).2.1)
def tellC (i : Nat) (bl : List (List Nat)) (s : List Nat) : TellV :=
  if (getL s).2.2 ≠ 0 then errV (getL s).2.2 else if 12 < (getL s).1 then errV 111 else tellD i bl [] [] (getL s).1 (s.drop (getL s).2.1)
/-- the blocks' names, n of them to come -/
def tellB (i : Nat) (bl : List (List Nat)) : Nat → List Nat → TellV
  | 0, s => tellC i bl s
  | n + 1, s => if s.length < 32 then errV 40 else tellB i (bl ++ [s.take 32]) n (s.drop 32)
def tellA (s : List Nat) : TellV :=
  if s.length < 4 then errV 40
  else if (getL (s.drop 4)).2.2 ≠ 0 then errV (getL (s.drop 4)).2.2
  else if 16 < (getL (s.drop 4)).1 then errV 111
  else tellB (fixN s 4) [] (getL (s.drop 4)).1 ((s.drop 4).drop (getL (s.drop 4)).2.1)
def rawOf (v : VerH) : RawV := ⟨v.id, v.blocks, v.names, v.sizes⟩
theorem rawOf_ver (v : VerH) : (rawOf v).ver = v := by
  obtain ⟨i, bl, fs⟩ := v
  unfold RawV.ver rawOf VerH.names VerH.sizes
  simp only [VerH.mk.injEq, true_and, List.map_map]
  induction fs with
  | nil => rfl
  | cons f fs ih => simp only [List.map_cons, List.zip_cons_cons, ih]; rfl
/-- what is told by the codec -/
def told (x : Except Nat (VerH × List Nat)) : TellV := match x with | .ok (v, r) => (rawOf v, r, 0) | .error e => errV e
theorem read_textP (s : List Nat) : textP s = if (readL s).2.2 ≠ 0 then .error (readL s).2.2 else .ok ((readL s).1, (readL s).2.1) := by
  unfold textP depP getP readL
  by_cases h : (getL s).2.2 = 0
  · have h' : ¬ (getL s).2.2 ≠ 0 := by simpa using h
    rw [if_pos h]
    simp only [if_neg h']
    unfold rawP
    by_cases h2 : (s.drop (getL s).2.1).length < (getL s).1
    · simp only [if_pos h2]; rfl
    · simp only [if_neg h2]; rfl
  · rw [if_neg h]
    simp only [if_pos h]
theorem get_two {s : List Nat} : getP s = if (getL s).2.2 ≠ 0 then .error (getL s).2.2 else .ok ((getL s).1, s.drop (getL s).2.1) := by
  unfold getP
  by_cases h : (getL s).2.2 = 0
  · rw [if_pos h, if_neg (by simpa using h)]
  · rw [if_neg h, if_pos h]
theorem fileP_is (s : List Nat) : fileP s = if (readL s).2.2 ≠ 0 then .error (readL s).2.2 else if (getL (readL s).2.1).2.2 ≠ 0 then .error (getL (readL s).2.1).2.2 else if 300 < (getL (readL s).2.1).1 then .error 111 else .ok (((readL s).1, (getL (readL s).2.1).1), (readL s).2.1.drop (getL (readL s).2.1).2.1) := by
  unfold fileP pairP guardP
  rw [read_textP]
  by_cases h1 : (readL s).2.2 ≠ 0
  · simp only [if_pos h1]
  · simp only [if_neg h1]
    rw [get_two]
    by_cases h2 : (getL (readL s).2.1).2.2 ≠ 0
    · simp only [if_pos h2]
    · simp only [if_neg h2]
      by_cases h3 : 300 < (getL (readL s).2.1).1
      · rw [if_pos h3, if_neg (by simp; omega)]
      · rw [if_neg h3, if_pos (by simp; omega)]
theorem tellD_is (i : Nat) (bl : List (List Nat)) : ∀ (k : Nat) (s : List Nat) (fs : List (List Nat × Nat)),
    tellD i bl (fs.map (·.1)) (fs.map fun f => (f.2 : Int)) k s = (match manyP fileP k s with
      | .error e => errV e
      | .ok (l, r) => told (if VerH.may ⟨i, bl, fs ++ l⟩ then .ok (⟨i, bl, fs ++ l⟩, r) else .error 1))
  | 0, s, fs => by
    unfold tellD manyP
    simp only [List.append_nil]
    by_cases h : VerH.may ⟨i, bl, fs⟩ = true
    · rw [if_pos h]
      unfold VerH.may VerH.names VerH.sizes at h
      rw [if_pos h]
      rfl
    · rw [if_neg h]
      unfold VerH.may VerH.names VerH.sizes at h
      rw [if_neg h]
      rfl
  | k + 1, s, fs => by
    have ih := tellD_is i bl k ((readL s).2.1.drop (getL (readL s).2.1).2.1) (fs ++ [((readL s).1, (getL (readL s).2.1).1)])
    simp only [List.map_append, List.map_cons, List.map_nil] at ih
    rw [tellD, manyP, fileP_is]
    by_cases h1 : (readL s).2.2 ≠ 0
    · simp only [if_pos h1]
    · simp only [if_neg h1]
      by_cases h2 : (getL (readL s).2.1).2.2 ≠ 0
      · simp only [if_pos h2]
      · simp only [if_neg h2]
        by_cases h3 : 300 < (getL (readL s).2.1).1
        · simp only [if_pos h3]
        · simp only [if_neg h3]
          rw [ih]
          cases manyP fileP k ((readL s).2.1.drop (getL (readL s).2.1).2.1) with
          | error e => rfl
          | ok z =>
            obtain ⟨l, r⟩ := z
            simp only [List.append_assoc, List.singleton_append]
theorem count_is {α : Type} (p : List Nat → Except Nat (α × List Nat)) (n : Nat) (s : List Nat) : countP p n 111 s = if (getL s).2.2 ≠ 0 then .error (getL s).2.2 else if n < (getL s).1 then .error 111 else manyP p (getL s).1 (s.drop (getL s).2.1) := by
  unfold countP depP guardP
  rw [get_two]
  by_cases h1 : (getL s).2.2 ≠ 0
  · simp only [if_pos h1]
  · simp only [if_neg h1]
    by_cases h3 : n < (getL s).1
    · rw [if_pos h3, if_neg (by simp; omega)]
    · rw [if_neg h3, if_pos (by simp; omega)]
theorem tellC_is (i : Nat) (bl : List (List Nat)) (s : List Nat) : tellC i bl s = (match countP fileP 12 111 s with
      | .error e => errV e
      | .ok (l, r) => told (if VerH.may ⟨i, bl, l⟩ then .ok (⟨i, bl, l⟩, r) else .error 1)) := by
  have := tellD_is i bl (getL s).1 (s.drop (getL s).2.1) []
  simp only [List.map_nil, List.nil_append] at this
  unfold tellC
  rw [count_is]
  by_cases h1 : (getL s).2.2 ≠ 0
  · simp only [if_pos h1]
  · simp only [if_neg h1]
    by_cases h3 : 12 < (getL s).1
    · simp only [if_pos h3]
    · simp only [if_neg h3]
      rw [this]
theorem tellB_is (i : Nat) : ∀ (n : Nat) (s : List Nat) (bl : List (List Nat)), tellB i bl n s = (match manyP (rawP 32) n s with
      | .error e => errV e
      | .ok (l, r) => tellC i (bl ++ l) r)
  | 0, s, bl => by unfold tellB manyP; simp
  | n + 1, s, bl => by
    have ih := tellB_is i n (s.drop 32) (bl ++ [s.take 32])
    have hr : rawP 32 s = if s.length < 32 then .error 40 else .ok (s.take 32, s.drop 32) := rfl
    rw [tellB, manyP, hr]
    by_cases h : s.length < 32
    · simp only [if_pos h]
    · simp only [if_neg h]
      rw [ih]
      cases manyP (rawP 32) n (s.drop 32) with
      | error e => rfl
      | ok z =>
        obtain ⟨l, r⟩ := z
        simp only [List.append_assoc, List.singleton_append]
theorem read_facts {s : List Nat} (h : Bys s) (hl : s.length ≤ 65536) : Bys (readL s).1 ∧ Bys (readL s).2.1 ∧ (readL s).2.1.length ≤ 65536 ∧ (readL s).1.length ≤ 65536 := by
  have h0 : Bys [] := Bys.of fun y hy => by cases hy
  have h1 : (s.drop (getL s).2.1).length ≤ 65536 := by rw [List.length_drop]; omega
  unfold readL
  split
  · exact ⟨h0, h0, by simp, by simp⟩
  · split
    · exact ⟨h0, h0, by simp, by simp⟩
    · refine ⟨(h.drop _).take _, (h.drop _).drop _, ?_, ?_⟩
      · show ((s.drop (getL s).2.1).drop (getL s).1).length ≤ 65536
        rw [List.length_drop]; omega
      · show ((s.drop (getL s).2.1).take (getL s).1).length ≤ 65536
        rw [List.length_take]; omega
/-- THE FACT: step by step it is what the codec reads -/
theorem tellA_is (s : List Nat) : tellA s = told (verP s) := by
  unfold tellA verP partsP pairP fixP
  by_cases h0 : s.length < 4
  · simp only [if_pos h0]; rfl
  · simp only [if_neg h0]
    rw [count_is]
    by_cases h1 : (getL (s.drop 4)).2.2 ≠ 0
    · simp only [if_pos h1]; rfl
    · simp only [if_neg h1]
      by_cases h3 : 16 < (getL (s.drop 4)).1
      · simp only [if_pos h3]; rfl
      · simp only [if_neg h3]
        rw [tellB_is]
        simp only [List.nil_append]
        cases manyP (rawP 32) (getL (s.drop 4)).1 ((s.drop 4).drop (getL (s.drop 4)).2.1) with
        | error e => rfl
        | ok z =>
          obtain ⟨bl, r⟩ := z
          simp only
          rw [tellC_is]
          cases countP fileP 12 111 r with
          | error e => rfl
          | ok z => rfl
end Go.Proofs.Ytahfjfhiejhddaa
