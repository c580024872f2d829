/- The program's reading of versions as steps of a state: the version so far, the bytes left, the error; it tells what tellA tells. -/
import Derived.Test.YtahfjfhiejhddaaHRdN
namespace Go.Proofs.Ytahfjfhiejhddaa
set_option linter.unusedVariables false

abbrev RSt := RawV × List Nat × Nat
def stI (S : RSt) : RSt := if S.2.2 ≠ 0 then S else if S.2.1.length < 4 then (S.1, S.2.1, 40) else (⟨fixN S.2.1 4, S.1.bl, S.1.ns, S.1.zs⟩, S.2.1.drop 4, 0)
def stB (S : RSt) : RSt := if S.2.2 ≠ 0 then S else if S.2.1.length < 32 then (S.1, S.2.1, 40) else (⟨S.1.id, S.1.bl ++ [S.2.1.take 32], S.1.ns, S.1.zs⟩, S.2.1.drop 32, 0)
def stN (S : RSt) : RSt := if S.2.2 ≠ 0 then S else if (readL S.2.1).2.2 ≠ 0 then (S.1, S.2.1, (readL S.2.1).2.2) else (⟨S.1.id, S.1.bl, S.1.ns ++ [(readL S.2.1).1], S.1.zs⟩, (readL S.2.1).2.1, 0)
def stZ (S : RSt) : RSt := if S.2.2 ≠ 0 then S else if (getL S.2.1).2.2 ≠ 0 then (S.1, S.2.1, (getL S.2.1).2.2) else if 300 < (getL S.2.1).1 then (S.1, S.2.1, 111) else (⟨S.1.id, S.1.bl, S.1.ns, S.1.zs ++ [((getL S.2.1).1 : Int)]⟩, S.2.1.drop (getL S.2.1).2.1, 0)
def stF (S : RSt) : RSt := stZ (stN S)
def iterS (f : RSt → RSt) : Nat → RSt → RSt
  | 0, S => S
  | n + 1, S => iterS f n (f S)
def stM (most : Nat) (one : RSt → RSt) (S : RSt) : RSt := if S.2.2 ≠ 0 then S else if (getL S.2.1).2.2 ≠ 0 then (S.1, S.2.1, (getL S.2.1).2.2) else if most < (getL S.2.1).1 then (S.1, S.2.1, 111) else iterS one (getL S.2.1).1 (S.1, S.2.1.drop (getL S.2.1).2.1, 0)
def stE (S : RSt) : RSt := if S.2.2 ≠ 0 then S else if mayH S.1.bl.length S.1.ns S.1.zs then S else (S.1, S.2.1, 1)
def stOut (S : RSt) : TellV := if S.2.2 ≠ 0 then errV S.2.2 else (S.1, S.2.1, 0)
theorem iter_same {f : RSt → RSt} {S : RSt} (h : f S = S) : ∀ n, iterS f n S = S
  | 0 => rfl
  | n + 1 => by rw [iterS, h]; exact iter_same h n
theorem iter_snoc (f : RSt → RSt) : ∀ (n : Nat) (S : RSt), iterS f (n + 1) S = f (iterS f n S)
  | 0, S => rfl
  | n + 1, S => by rw [iterS, iter_snoc f n (f S), iterS]
theorem stB_err {S : RSt} (h : S.2.2 ≠ 0) : stB S = S := by unfold stB; rw [if_pos h]
theorem stN_err {S : RSt} (h : S.2.2 ≠ 0) : stN S = S := by unfold stN; rw [if_pos h]
theorem stZ_err {S : RSt} (h : S.2.2 ≠ 0) : stZ S = S := by unfold stZ; rw [if_pos h]
theorem stF_err {S : RSt} (h : S.2.2 ≠ 0) : stF S = S := by unfold stF; rw [stN_err h, stZ_err h]
theorem stM_err {most : Nat} {one : RSt → RSt} {S : RSt} (h : S.2.2 ≠ 0) : stM most one S = S := by unfold stM; rw [if_pos h]
theorem stE_err {S : RSt} (h : S.2.2 ≠ 0) : stE S = S := by unfold stE; rw [if_pos h]
theorem stOut_err {S : RSt} (h : S.2.2 ≠ 0) : stOut (stE S) = errV S.2.2 := by rw [stE_err h]; unfold stOut; rw [if_pos h]
theorem st_tellD (i : Nat) (bl : List (List Nat)) : ∀ (k : Nat) (ns : List (List Nat)) (zs : List Int) (s : List Nat), stOut (stE (iterS stF k (⟨i, bl, ns, zs⟩, s, 0))) = tellD i bl ns zs k s
  | 0, ns, zs, s => by
    unfold iterS tellD stE stOut
    by_cases h : mayH bl.length ns zs = true
    · simp [h]
    · simp [h]
  | k + 1, ns, zs, s => by
    rw [iterS, tellD]
    by_cases h1 : (readL s).2.2 ≠ 0
    · have e : stF (⟨i, bl, ns, zs⟩, s, 0) = (⟨i, bl, ns, zs⟩, s, (readL s).2.2) := by
        unfold stF
        have : stN (⟨i, bl, ns, zs⟩, s, 0) = (⟨i, bl, ns, zs⟩, s, (readL s).2.2) := by unfold stN; rw [if_neg (by simp), if_pos h1]
        rw [this, stZ_err h1]
      rw [if_pos h1, e, iter_same (stF_err h1), stOut_err h1]
    · have e : stN (⟨i, bl, ns, zs⟩, s, 0) = (⟨i, bl, ns ++ [(readL s).1], zs⟩, (readL s).2.1, 0) := by unfold stN; rw [if_neg (by simp), if_neg h1]
      rw [if_neg h1]
      unfold stF
      by_cases h2 : (getL (readL s).2.1).2.2 ≠ 0
      · have e2 : stZ (stN (⟨i, bl, ns, zs⟩, s, 0)) = (⟨i, bl, ns ++ [(readL s).1], zs⟩, (readL s).2.1, (getL (readL s).2.1).2.2) := by rw [e]; unfold stZ; rw [if_neg (by simp), if_pos h2]
        rw [if_pos h2, e2]
        have := iter_same (f := stF) (stF_err (S := (⟨i, bl, ns ++ [(readL s).1], zs⟩, (readL s).2.1, (getL (readL s).2.1).2.2)) h2) k
        unfold stF at this
        rw [this, stOut_err h2]
      · rw [if_neg h2]
        by_cases h3 : 300 < (getL (readL s).2.1).1
        · have e2 : stZ (stN (⟨i, bl, ns, zs⟩, s, 0)) = (⟨i, bl, ns ++ [(readL s).1], zs⟩, (readL s).2.1, 111) := by rw [e]; unfold stZ; rw [if_neg (by simp), if_neg h2, if_pos h3]
          rw [if_pos h3, e2]
          have h4 : ((⟨i, bl, ns ++ [(readL s).1], zs⟩, (readL s).2.1, 111) : RSt).2.2 ≠ 0 := by simp
          have := iter_same (f := stF) (stF_err h4) k
          unfold stF at this
          rw [this, stOut_err h4]
        · have e2 : stZ (stN (⟨i, bl, ns, zs⟩, s, 0)) = (⟨i, bl, ns ++ [(readL s).1], zs ++ [((getL (readL s).2.1).1 : Int)]⟩, (readL s).2.1.drop (getL (readL s).2.1).2.1, 0) := by rw [e]; unfold stZ; rw [if_neg (by simp), if_neg h2, if_neg h3]
          rw [if_neg h3, e2]
          have := st_tellD i bl k (ns ++ [(readL s).1]) (zs ++ [((getL (readL s).2.1).1 : Int)]) ((readL s).2.1.drop (getL (readL s).2.1).2.1)
          unfold stF at this
          exact this
theorem st_tellC (i : Nat) (bl : List (List Nat)) (s : List Nat) : stOut (stE (stM 12 stF (⟨i, bl, [], []⟩, s, 0))) = tellC i bl s := by
  unfold stM tellC
  rw [if_neg (by simp)]
  by_cases h1 : (getL s).2.2 ≠ 0
  · rw [if_pos h1, if_pos h1, stOut_err h1]
  · rw [if_neg h1, if_neg h1]
    by_cases h2 : 12 < (getL s).1
    · rw [if_pos h2, if_pos h2, stOut_err (by simp)]
    · rw [if_neg h2, if_neg h2]
      exact st_tellD i bl _ [] [] _
theorem st_tellB (i : Nat) : ∀ (n : Nat) (bl : List (List Nat)) (s : List Nat), stOut (stE (stM 12 stF (iterS stB n (⟨i, bl, [], []⟩, s, 0)))) = tellB i bl n s
  | 0, bl, s => st_tellC i bl s
  | n + 1, bl, s => by
    rw [iterS, tellB]
    by_cases h : s.length < 32
    · have e : stB (⟨i, bl, [], []⟩, s, 0) = (⟨i, bl, [], []⟩, s, 40) := by unfold stB; rw [if_neg (by simp), if_pos h]
      have h4 : ((⟨i, bl, [], []⟩, s, 40) : RSt).2.2 ≠ 0 := by simp
      rw [if_pos h, e, iter_same (stB_err h4), stM_err h4, stOut_err h4]
    · have e : stB (⟨i, bl, [], []⟩, s, 0) = (⟨i, bl ++ [s.take 32], [], []⟩, s.drop 32, 0) := by unfold stB; rw [if_neg (by simp), if_neg h]
      rw [if_neg h, e]
      exact st_tellB i n _ _
/-- THE FACT: the steps come to what is told -/
theorem st_tell (s : List Nat) : stOut (stE (stM 12 stF (stM 16 stB (stI (noV, s, 0))))) = tellA s := by
  unfold tellA
  by_cases h0 : s.length < 4
  · have e : stI (noV, s, 0) = (noV, s, 40) := by unfold stI; rw [if_neg (by simp), if_pos h0]
    have h4 : ((noV, s, 40) : RSt).2.2 ≠ 0 := by simp
    rw [if_pos h0, e, stM_err h4, stM_err h4, stOut_err h4]
  · have e : stI (noV, s, 0) = (⟨fixN s 4, [], [], []⟩, s.drop 4, 0) := by unfold stI; rw [if_neg (by simp), if_neg h0]; rfl
    rw [if_neg h0, e]
    conv => lhs; unfold stM
    by_cases h1 : (getL (s.drop 4)).2.2 ≠ 0
    · have h4 : ((⟨fixN s 4, [], [], []⟩, s.drop 4, (getL (s.drop 4)).2.2) : RSt).2.2 ≠ 0 := h1
      simp only [ne_eq, not_true_eq_false, if_false, if_pos h1]
      exact stOut_err h4
    · by_cases h2 : 16 < (getL (s.drop 4)).1
      · have h4 : ((⟨fixN s 4, [], [], []⟩, s.drop 4, 111) : RSt).2.2 ≠ 0 := by simp
        simp only [ne_eq, not_true_eq_false, if_false, if_neg h1, if_pos h2]
        exact stOut_err h4
      · have := st_tellB (fixN s 4) (getL (s.drop 4)).1 [] ((s.drop 4).drop (getL (s.drop 4)).2.1)
        unfold stM at this
        simp only [ne_eq, not_true_eq_false, if_false, if_neg h1, if_neg h2]
        exact this
/-! ### what stays true of it -/
structure RdOk (S : RSt) (k : Nat) : Prop where
  bys : Bys S.2.1
  len : S.2.1.length ≤ 65536
  nb : S.1.bl.length ≤ k
  nn' : S.1.ns.length ≤ k
  nz : S.1.zs.length ≤ k
  nby : ∀ x ∈ S.1.ns, Bys x
theorem RdOk.more {S : RSt} {k k' : Nat} (h : RdOk S k) (hk : k ≤ k') : RdOk S k' := ⟨h.bys, h.len, Nat.le_trans h.nb hk, Nat.le_trans h.nn' hk, Nat.le_trans h.nz hk, h.nby⟩
theorem RdOk.err {S : RSt} {k : Nat} (h : RdOk S k) (e : Nat) : RdOk (S.1, S.2.1, e) k := ⟨h.bys, h.len, h.nb, h.nn', h.nz, h.nby⟩
theorem RdOk.drop {S : RSt} {k : Nat} (h : RdOk S k) (n e : Nat) : RdOk (S.1, S.2.1.drop n, e) k := ⟨h.bys.drop n, by show (S.2.1.drop n).length ≤ 65536; rw [List.length_drop]; have := h.len; omega, h.nb, h.nn', h.nz, h.nby⟩
theorem ok_I {S : RSt} {k : Nat} (h : RdOk S k) : RdOk (stI S) k := by
  unfold stI
  split
  · exact h
  · split
    · exact h.err 40
    · exact ⟨(h.drop 4 0).bys, (h.drop 4 0).len, h.nb, h.nn', h.nz, h.nby⟩
theorem ok_B {S : RSt} {k : Nat} (h : RdOk S k) : RdOk (stB S) (k + 1) := by
  unfold stB
  split
  · exact h.more (by omega)
  · split
    · exact (h.err 40).more (by omega)
    · exact ⟨(h.drop 32 0).bys, (h.drop 32 0).len, by show (S.1.bl ++ [S.2.1.take 32]).length ≤ k + 1; rw [List.length_append]; have := h.nb; simp; omega, (h.more (Nat.le_succ k)).nn', (h.more (Nat.le_succ k)).nz, h.nby⟩
theorem ok_N {S : RSt} {k : Nat} (h : RdOk S k) : RdOk (stN S) (k + 1) := by
  unfold stN
  split
  · exact h.more (by omega)
  · split
    · exact (h.err _).more (by omega)
    · obtain ⟨f1, f2, f3, f4⟩ := read_facts h.bys h.len
      refine ⟨f2, f3, (h.more (Nat.le_succ k)).nb, by show (S.1.ns ++ [_]).length ≤ k + 1; rw [List.length_append]; have := h.nn'; simp; omega, (h.more (Nat.le_succ k)).nz, fun x hx => ?_⟩
      rcases List.mem_append.1 hx with hx | hx
      · exact h.nby x hx
      · rw [List.mem_singleton.1 hx]; exact f1
theorem ok_Z {S : RSt} {k : Nat} (h : RdOk S k) : RdOk (stZ S) (k + 1) := by
  unfold stZ
  split
  · exact h.more (by omega)
  · split
    · exact (h.err _).more (by omega)
    · split
      · exact (h.err _).more (by omega)
      · exact ⟨(h.drop _ 0).bys, (h.drop _ 0).len, (h.more (Nat.le_succ k)).nb, (h.more (Nat.le_succ k)).nn', by show (S.1.zs ++ [_]).length ≤ k + 1; rw [List.length_append]; have := h.nz; simp; omega, h.nby⟩
theorem ok_F {S : RSt} {k : Nat} (h : RdOk S k) : RdOk (stF S) (k + 2) := ok_Z (ok_N h)
theorem ok_iter {f : RSt → RSt} {d : Nat} (hf : ∀ S k, RdOk S k → RdOk (f S) (k + d)) : ∀ (n : Nat) (S : RSt) (k : Nat), RdOk S k → RdOk (iterS f n S) (k + d * n)
  | 0, S, k, h => h
  | n + 1, S, k, h => by
    have := ok_iter hf n (f S) (k + d) (hf S k h)
    rw [iterS, Nat.mul_succ]
    rw [show k + (d * n + d) = k + d + d * n by omega]
    exact this
theorem ok_M {f : RSt → RSt} {d most : Nat} (hf : ∀ S k, RdOk S k → RdOk (f S) (k + d)) {S : RSt} {k : Nat} (h : RdOk S k) : RdOk (stM most f S) (k + d * most) := by
  unfold stM
  split
  · exact h.more (by omega)
  · split
    · exact (h.err _).more (by omega)
    · split
      · exact (h.err _).more (by omega)
      · rename_i h3
        refine (ok_iter hf _ _ k (h.drop _ 0)).more ?_
        have : d * (getL S.2.1).1 ≤ d * most := Nat.mul_le_mul_left _ (by omega)
        omega
end Go.Proofs.Ytahfjfhiejhddaa
